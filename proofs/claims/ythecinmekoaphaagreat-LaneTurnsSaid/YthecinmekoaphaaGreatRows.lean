/-
  No cell of these rows narrows 'for every input' (looked for: loops, veiled, ifaces, maps, wideKeys, modest, calm, conditions, laid).
  DERIVED. THE GIVEN ROWS OF THIS SEAT. 4 by the template 'for every input the law returns true; each argument reads behind the call as it read before'; 0 by the template 'total and deterministic' (their statements: YthecinmekoaphaaGreatTotals.lean).
  GIVEN WITH THE SEED: the statements are not yours to turn. If you find one false, say at which input.
  Laid BY PROGRAM, IN A SANDBOX (cutbox-rows.mjs): the forced cells as the released guide's own fill.sh prints them over the translation 69006a7234746fcd… (all of the seat's roots in one cut). By AI agents, Wed Nov 11 2026. No macro, syntax, notation, axiom, sorry.
-/
import Derived.Test.YthecinmekoaphaaGreatChecked
import GoSem.Claim
import GoSem.ClaimJoined
import GoSem.ClaimMapViews
import Derived.JoinedTies
import Derived.KernelRfl
namespace Go.Proofs.YthecinmekoaphaaGreat
/- THE CELL 'sum', in the pinned program and in every row, IS THE sha256 OF THE DUMP (.gsa) THAT YthecinmekoaphaaGreatProg.lean LOADS. Nothing in Lean hashes anything: it is a label: what it is worth is what the hold of that sum in a sandbox is worth. -/
noncomputable def Tryz.pinned : Pinned := { name := "ythecinmekoaphaagreat", sum := "69006a7234746fcd8ab37c0ffa6147b67da1ef2f207c9966699a2e1eb594e630", checked := Tryz.checked }
namespace Rows
def none {H : Type} : Left H := { results := [], args := [] }

/-- 'cambistlaw10.LanePlays': WHATEVER THE INPUT: true; the input reads as it did. -/
def lanePlaysSpec : ChangeSpec := { name := "lanePlays", fn := fun _ => fun
  | [d1, d2, d3] => { results := [.lit (.bool true)], args := [d1, d2, d3] }
  | _ => none }
def lanePlaysRow : OpenClaim := { program := "ythecinmekoaphaagreat", sum := "69006a7234746fcd8ab37c0ffa6147b67da1ef2f207c9966699a2e1eb594e630", func := "cambist/cambistlaw10.LanePlays", spec := "lanePlays", inPlace := ["slices.overlaps[cambist/api.Level]"], unfollowed := true, recurses := true, plainKeys := false, apart := false }
def LanePlaysSaid : Prop := lanePlaysRow.holds Tryz.pinned (OpenSpec.ofChange lanePlaysSpec)

/-- ITS FALSE NEIGHBOUR: 'it returns false'. Refute it at one input. -/
def lanePlaysWrong : ChangeSpec := { name := "lanePlays", fn := fun _ => fun
  | [d1, d2, d3] => { results := [.lit (.bool false)], args := [d1, d2, d3] }
  | _ => none }
def LanePlaysWrongFalsely : Prop := lanePlaysRow.holds Tryz.pinned (OpenSpec.ofChange lanePlaysWrong)

/-- 'cambistlaw10.LaneTurns': WHATEVER THE INPUT: true; the input reads as it did. -/
def laneTurnsSpec : ChangeSpec := { name := "laneTurns", fn := fun _ => fun
  | [d1, d2, d3] => { results := [.lit (.bool true)], args := [d1, d2, d3] }
  | _ => none }
def laneTurnsRow : OpenClaim := { program := "ythecinmekoaphaagreat", sum := "69006a7234746fcd8ab37c0ffa6147b67da1ef2f207c9966699a2e1eb594e630", func := "cambist/cambistlaw10.LaneTurns", spec := "laneTurns", inPlace := ["slices.overlaps[cambist/api.Level]"], unfollowed := true, recurses := true, plainKeys := false, apart := false }
def LaneTurnsSaid : Prop := laneTurnsRow.holds Tryz.pinned (OpenSpec.ofChange laneTurnsSpec)

/-- ITS FALSE NEIGHBOUR: 'it returns false'. Refute it at one input. -/
def laneTurnsWrong : ChangeSpec := { name := "laneTurns", fn := fun _ => fun
  | [d1, d2, d3] => { results := [.lit (.bool false)], args := [d1, d2, d3] }
  | _ => none }
def LaneTurnsWrongFalsely : Prop := laneTurnsRow.holds Tryz.pinned (OpenSpec.ofChange laneTurnsWrong)

/-- 'cambistlaw10.LaneKeeps': WHATEVER THE INPUT: true; the input reads as it did. -/
def laneKeepsSpec : ChangeSpec := { name := "laneKeeps", fn := fun _ => fun
  | [d1, d2] => { results := [.lit (.bool true)], args := [d1, d2] }
  | _ => none }
def laneKeepsRow : OpenClaim := { program := "ythecinmekoaphaagreat", sum := "69006a7234746fcd8ab37c0ffa6147b67da1ef2f207c9966699a2e1eb594e630", func := "cambist/cambistlaw10.LaneKeeps", spec := "laneKeeps", inPlace := ["slices.overlaps[cambist/api.Level]"], unfollowed := true, recurses := true, plainKeys := false, apart := false }
def LaneKeepsSaid : Prop := laneKeepsRow.holds Tryz.pinned (OpenSpec.ofChange laneKeepsSpec)

/-- ITS FALSE NEIGHBOUR: 'it returns false'. Refute it at one input. -/
def laneKeepsWrong : ChangeSpec := { name := "laneKeeps", fn := fun _ => fun
  | [d1, d2] => { results := [.lit (.bool false)], args := [d1, d2] }
  | _ => none }
def LaneKeepsWrongFalsely : Prop := laneKeepsRow.holds Tryz.pinned (OpenSpec.ofChange laneKeepsWrong)

/-- 'cambistlaw10.LaneOwner': WHATEVER THE INPUT: true; the input reads as it did. -/
def laneOwnerSpec : ChangeSpec := { name := "laneOwner", fn := fun _ => fun
  | [d1, d2] => { results := [.lit (.bool true)], args := [d1, d2] }
  | _ => none }
def laneOwnerRow : OpenClaim := { program := "ythecinmekoaphaagreat", sum := "69006a7234746fcd8ab37c0ffa6147b67da1ef2f207c9966699a2e1eb594e630", func := "cambist/cambistlaw10.LaneOwner", spec := "laneOwner", inPlace := ["slices.overlaps[cambist/api.Level]"], unfollowed := true, recurses := true, plainKeys := false, apart := false }
def LaneOwnerSaid : Prop := laneOwnerRow.holds Tryz.pinned (OpenSpec.ofChange laneOwnerSpec)

/-- ITS FALSE NEIGHBOUR: 'it returns false'. Refute it at one input. -/
def laneOwnerWrong : ChangeSpec := { name := "laneOwner", fn := fun _ => fun
  | [d1, d2] => { results := [.lit (.bool false)], args := [d1, d2] }
  | _ => none }
def LaneOwnerWrongFalsely : Prop := laneOwnerRow.holds Tryz.pinned (OpenSpec.ofChange laneOwnerWrong)

/- THE SECOND FORM. 'bulk': how many values and letters a reading holds, each counted each time it is reached (what is shared counts as often as it is met; a slice's spare places count too). A statement '..UptoSaid' is the law's where the arguments, and the package variables that the reading takes, are together of bulk at most 1048576: NARROWER than '..Said'. Prove '..Said' where nothing that the law and all that it calls make is longer than what came in: it says more and counts as full. Else prove '..UptoSaid'. A law counts once. -/
mutual
def uptoBulk {H : Type} : DataW H → Nat
  | .lit (.string bytes) => bytes.length + 1
  | .lit _ => 1
  | .nil => 1
  | .ptr d => uptoBulk d + 1
  | .slice elems spare => uptoBulkAll elems + uptoBulkAll spare + 1
  | .agg parts => uptoBulkAll parts + 1
  | .iface _ d => uptoBulk d + 1
  | .map entries => uptoBulkEntries entries + 1
  | .held _ => 1
def uptoBulkAll {H : Type} : List (DataW H) → Nat
  | [] => 0
  | d :: r => uptoBulk d + uptoBulkAll r
def uptoBulkEntries {H : Type} : List (Lit × DataW H) → Nat
  | [] => 0
  | x :: r => uptoBulkEntry x + uptoBulkEntries r
def uptoBulkEntry {H : Type} : Lit × DataW H → Nat
  | (.string bytes, d) => bytes.length + uptoBulk d + 1
  | (_, d) => uptoBulk d + 1
 end
def uptoSmall : (H : Type) → List (DataW H) → Bool := fun _ ds => decide (uptoBulkAll ds ≤ 1048576)
def OpenSpec.upto (s : _root_.Go.ChangeSpec) : _root_.Go.OpenSpec := { _root_.Go.OpenSpec.ofChange s with cond := some uptoSmall }

/-- 'cambistlaw10.LanePlays', WHERE WHAT IT READS IS OF BULK AT MOST 1048576: true; the input reads as it did. -/
def lanePlaysUptoRow : OpenClaim := { program := "ythecinmekoaphaagreat", sum := "69006a7234746fcd8ab37c0ffa6147b67da1ef2f207c9966699a2e1eb594e630", func := "cambist/cambistlaw10.LanePlays", spec := "lanePlays", inPlace := ["slices.overlaps[cambist/api.Level]"], unfollowed := true, recurses := true, plainKeys := false, apart := false, narrowed := true }
def LanePlaysUptoSaid : Prop := lanePlaysUptoRow.holds Tryz.pinned (OpenSpec.upto lanePlaysSpec)

/-- 'cambistlaw10.LaneTurns', WHERE WHAT IT READS IS OF BULK AT MOST 1048576: true; the input reads as it did. -/
def laneTurnsUptoRow : OpenClaim := { program := "ythecinmekoaphaagreat", sum := "69006a7234746fcd8ab37c0ffa6147b67da1ef2f207c9966699a2e1eb594e630", func := "cambist/cambistlaw10.LaneTurns", spec := "laneTurns", inPlace := ["slices.overlaps[cambist/api.Level]"], unfollowed := true, recurses := true, plainKeys := false, apart := false, narrowed := true }
def LaneTurnsUptoSaid : Prop := laneTurnsUptoRow.holds Tryz.pinned (OpenSpec.upto laneTurnsSpec)

/-- 'cambistlaw10.LaneKeeps', WHERE WHAT IT READS IS OF BULK AT MOST 1048576: true; the input reads as it did. -/
def laneKeepsUptoRow : OpenClaim := { program := "ythecinmekoaphaagreat", sum := "69006a7234746fcd8ab37c0ffa6147b67da1ef2f207c9966699a2e1eb594e630", func := "cambist/cambistlaw10.LaneKeeps", spec := "laneKeeps", inPlace := ["slices.overlaps[cambist/api.Level]"], unfollowed := true, recurses := true, plainKeys := false, apart := false, narrowed := true }
def LaneKeepsUptoSaid : Prop := laneKeepsUptoRow.holds Tryz.pinned (OpenSpec.upto laneKeepsSpec)

/-- 'cambistlaw10.LaneOwner', WHERE WHAT IT READS IS OF BULK AT MOST 1048576: true; the input reads as it did. -/
def laneOwnerUptoRow : OpenClaim := { program := "ythecinmekoaphaagreat", sum := "69006a7234746fcd8ab37c0ffa6147b67da1ef2f207c9966699a2e1eb594e630", func := "cambist/cambistlaw10.LaneOwner", spec := "laneOwner", inPlace := ["slices.overlaps[cambist/api.Level]"], unfollowed := true, recurses := true, plainKeys := false, apart := false, narrowed := true }
def LaneOwnerUptoSaid : Prop := laneOwnerUptoRow.holds Tryz.pinned (OpenSpec.upto laneOwnerSpec)

end Rows
end Go.Proofs.YthecinmekoaphaaGreat
