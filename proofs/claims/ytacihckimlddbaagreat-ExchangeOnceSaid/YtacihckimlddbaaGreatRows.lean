/-
  No cell of these rows narrows 'for every input' (looked for: loops, veiled, ifaces, maps, wideKeys, modest, calm, conditions, laid).
  DERIVED. THE GIVEN ROWS OF THIS SEAT. 7 by the template 'for every input the law returns true; each argument reads behind the call as it read before'; 0 by the template 'total and deterministic' (their statements: YtacihckimlddbaaGreatTotals.lean).
  GIVEN WITH THE SEED: the statements are not yours to turn. If you find one false, say at which input.
  Laid BY PROGRAM, IN A SANDBOX (cutbox-rows.mjs): the forced cells as the released guide's own fill.sh prints them over the translation 9fb90ec5d1ae8a34… (all of the seat's roots in one cut). By AI agents, Wed Nov 11 2026. No macro, syntax, notation, axiom, sorry.
-/
import Derived.Test.YtacihckimlddbaaGreatChecked
import GoSem.Claim
import GoSem.ClaimJoined
import GoSem.ClaimMapViews
import Derived.JoinedTies
import Derived.KernelRfl
namespace Go.Proofs.YtacihckimlddbaaGreat
/- THE CELL 'sum', in the pinned program and in every row, IS THE sha256 OF THE DUMP (.gsa) THAT YtacihckimlddbaaGreatProg.lean LOADS. Nothing in Lean hashes anything: it is a label: what it is worth is what the hold of that sum in a sandbox is worth. -/
noncomputable def Tryz.pinned : Pinned := { name := "ytacihckimlddbaagreat", sum := "9fb90ec5d1ae8a342e8655b4637f26891adede04b4b21830223f6678cb7b34a9", checked := Tryz.checked }
namespace Rows
def none {H : Type} : Left H := { results := [], args := [] }

/-- 'cambistlaw12.ExchangePlays': WHATEVER THE INPUT: true; the input reads as it did. -/
def exchangePlaysSpec : ChangeSpec := { name := "exchangePlays", fn := fun _ => fun
  | [d] => { results := [.lit (.bool true)], args := [d] }
  | _ => none }
def exchangePlaysRow : OpenClaim := { program := "ytacihckimlddbaagreat", sum := "9fb90ec5d1ae8a342e8655b4637f26891adede04b4b21830223f6678cb7b34a9", func := "cambist/cambistlaw12.ExchangePlays", spec := "exchangePlays", inPlace := ["slices.overlaps[cambist/api.Level]"], unfollowed := true, recurses := true, plainKeys := false, apart := false }
def ExchangePlaysSaid : Prop := exchangePlaysRow.holds Tryz.pinned (OpenSpec.ofChange exchangePlaysSpec)

/-- ITS FALSE NEIGHBOUR: 'it returns false'. Refute it at one input. -/
def exchangePlaysWrong : ChangeSpec := { name := "exchangePlays", fn := fun _ => fun
  | [d] => { results := [.lit (.bool false)], args := [d] }
  | _ => none }
def ExchangePlaysWrongFalsely : Prop := exchangePlaysRow.holds Tryz.pinned (OpenSpec.ofChange exchangePlaysWrong)

/-- 'cambistlaw12.ExchangeBegins': WHATEVER THE INPUT: true; the input reads as it did. -/
def exchangeBeginsSpec : ChangeSpec := { name := "exchangeBegins", fn := fun _ => fun
  | [d] => { results := [.lit (.bool true)], args := [d] }
  | _ => none }
def exchangeBeginsRow : OpenClaim := { program := "ytacihckimlddbaagreat", sum := "9fb90ec5d1ae8a342e8655b4637f26891adede04b4b21830223f6678cb7b34a9", func := "cambist/cambistlaw12.ExchangeBegins", spec := "exchangeBegins", inPlace := ["slices.overlaps[cambist/api.Level]"], unfollowed := true, recurses := true, plainKeys := false, apart := false }
def ExchangeBeginsSaid : Prop := exchangeBeginsRow.holds Tryz.pinned (OpenSpec.ofChange exchangeBeginsSpec)

/-- ITS FALSE NEIGHBOUR: 'it returns false'. Refute it at one input. -/
def exchangeBeginsWrong : ChangeSpec := { name := "exchangeBegins", fn := fun _ => fun
  | [d] => { results := [.lit (.bool false)], args := [d] }
  | _ => none }
def ExchangeBeginsWrongFalsely : Prop := exchangeBeginsRow.holds Tryz.pinned (OpenSpec.ofChange exchangeBeginsWrong)

/-- 'cambistlaw12.ExchangeTurns': WHATEVER THE INPUT: true; the input reads as it did. -/
def exchangeTurnsSpec : ChangeSpec := { name := "exchangeTurns", fn := fun _ => fun
  | [d1, d2, d3] => { results := [.lit (.bool true)], args := [d1, d2, d3] }
  | _ => none }
def exchangeTurnsRow : OpenClaim := { program := "ytacihckimlddbaagreat", sum := "9fb90ec5d1ae8a342e8655b4637f26891adede04b4b21830223f6678cb7b34a9", func := "cambist/cambistlaw12.ExchangeTurns", spec := "exchangeTurns", inPlace := ["slices.overlaps[cambist/api.Level]"], unfollowed := true, recurses := true, plainKeys := false, apart := false }
def ExchangeTurnsSaid : Prop := exchangeTurnsRow.holds Tryz.pinned (OpenSpec.ofChange exchangeTurnsSpec)

/-- ITS FALSE NEIGHBOUR: 'it returns false'. Refute it at one input. -/
def exchangeTurnsWrong : ChangeSpec := { name := "exchangeTurns", fn := fun _ => fun
  | [d1, d2, d3] => { results := [.lit (.bool false)], args := [d1, d2, d3] }
  | _ => none }
def ExchangeTurnsWrongFalsely : Prop := exchangeTurnsRow.holds Tryz.pinned (OpenSpec.ofChange exchangeTurnsWrong)

/-- 'cambistlaw12.ExchangeRight': WHATEVER THE INPUT: true; the input reads as it did. -/
def exchangeRightSpec : ChangeSpec := { name := "exchangeRight", fn := fun _ => fun
  | [d] => { results := [.lit (.bool true)], args := [d] }
  | _ => none }
def exchangeRightRow : OpenClaim := { program := "ytacihckimlddbaagreat", sum := "9fb90ec5d1ae8a342e8655b4637f26891adede04b4b21830223f6678cb7b34a9", func := "cambist/cambistlaw12.ExchangeRight", spec := "exchangeRight", inPlace := ["slices.overlaps[cambist/api.Level]"], unfollowed := true, recurses := true, plainKeys := false, apart := false }
def ExchangeRightSaid : Prop := exchangeRightRow.holds Tryz.pinned (OpenSpec.ofChange exchangeRightSpec)

/-- ITS FALSE NEIGHBOUR: 'it returns false'. Refute it at one input. -/
def exchangeRightWrong : ChangeSpec := { name := "exchangeRight", fn := fun _ => fun
  | [d] => { results := [.lit (.bool false)], args := [d] }
  | _ => none }
def ExchangeRightWrongFalsely : Prop := exchangeRightRow.holds Tryz.pinned (OpenSpec.ofChange exchangeRightWrong)

/-- 'cambistlaw12.ExchangeOnce': WHATEVER THE INPUT: true; the input reads as it did. -/
def exchangeOnceSpec : ChangeSpec := { name := "exchangeOnce", fn := fun _ => fun
  | [d1, d2, d3] => { results := [.lit (.bool true)], args := [d1, d2, d3] }
  | _ => none }
def exchangeOnceRow : OpenClaim := { program := "ytacihckimlddbaagreat", sum := "9fb90ec5d1ae8a342e8655b4637f26891adede04b4b21830223f6678cb7b34a9", func := "cambist/cambistlaw12.ExchangeOnce", spec := "exchangeOnce", inPlace := ["slices.overlaps[cambist/api.Level]"], unfollowed := true, recurses := true, plainKeys := false, apart := false }
def ExchangeOnceSaid : Prop := exchangeOnceRow.holds Tryz.pinned (OpenSpec.ofChange exchangeOnceSpec)

/-- ITS FALSE NEIGHBOUR: 'it returns false'. Refute it at one input. -/
def exchangeOnceWrong : ChangeSpec := { name := "exchangeOnce", fn := fun _ => fun
  | [d1, d2, d3] => { results := [.lit (.bool false)], args := [d1, d2, d3] }
  | _ => none }
def ExchangeOnceWrongFalsely : Prop := exchangeOnceRow.holds Tryz.pinned (OpenSpec.ofChange exchangeOnceWrong)

/-- 'cambistlaw12.ExchangeCommutes': WHATEVER THE INPUT: true; the input reads as it did. -/
def exchangeCommutesSpec : ChangeSpec := { name := "exchangeCommutes", fn := fun _ => fun
  | [d1, d2, d3] => { results := [.lit (.bool true)], args := [d1, d2, d3] }
  | _ => none }
def exchangeCommutesRow : OpenClaim := { program := "ytacihckimlddbaagreat", sum := "9fb90ec5d1ae8a342e8655b4637f26891adede04b4b21830223f6678cb7b34a9", func := "cambist/cambistlaw12.ExchangeCommutes", spec := "exchangeCommutes", inPlace := ["slices.overlaps[cambist/api.Level]"], unfollowed := true, recurses := true, plainKeys := false, apart := false }
def ExchangeCommutesSaid : Prop := exchangeCommutesRow.holds Tryz.pinned (OpenSpec.ofChange exchangeCommutesSpec)

/-- ITS FALSE NEIGHBOUR: 'it returns false'. Refute it at one input. -/
def exchangeCommutesWrong : ChangeSpec := { name := "exchangeCommutes", fn := fun _ => fun
  | [d1, d2, d3] => { results := [.lit (.bool false)], args := [d1, d2, d3] }
  | _ => none }
def ExchangeCommutesWrongFalsely : Prop := exchangeCommutesRow.holds Tryz.pinned (OpenSpec.ofChange exchangeCommutesWrong)

/-- 'cambistlaw12.ExchangeKeys': WHATEVER THE INPUT: true; the input reads as it did. -/
def exchangeKeysSpec : ChangeSpec := { name := "exchangeKeys", fn := fun _ => fun
  | [d1, d2] => { results := [.lit (.bool true)], args := [d1, d2] }
  | _ => none }
def exchangeKeysRow : OpenClaim := { program := "ytacihckimlddbaagreat", sum := "9fb90ec5d1ae8a342e8655b4637f26891adede04b4b21830223f6678cb7b34a9", func := "cambist/cambistlaw12.ExchangeKeys", spec := "exchangeKeys", inPlace := ["slices.overlaps[cambist/api.Level]"], unfollowed := true, recurses := true, plainKeys := false, apart := false }
def ExchangeKeysSaid : Prop := exchangeKeysRow.holds Tryz.pinned (OpenSpec.ofChange exchangeKeysSpec)

/-- ITS FALSE NEIGHBOUR: 'it returns false'. Refute it at one input. -/
def exchangeKeysWrong : ChangeSpec := { name := "exchangeKeys", fn := fun _ => fun
  | [d1, d2] => { results := [.lit (.bool false)], args := [d1, d2] }
  | _ => none }
def ExchangeKeysWrongFalsely : Prop := exchangeKeysRow.holds Tryz.pinned (OpenSpec.ofChange exchangeKeysWrong)

/- THE SECOND FORM. 'bulk': how many values and letters a reading holds, each counted each time it is reached (what is shared counts as often as it is met; a slice's spare places count too). A statement '..UptoSaid' is the law's where the arguments, and the package variables that the reading takes, are together of bulk at most 1048576: NARROWER than '..Said'. Prove '..Said' where nothing that the law and all that it calls make is longer than what came in: it says more and counts as full. Else prove '..UptoSaid'. A law counts once. -/
mutual
def uptoBulk {H : Type} : DataW H → Nat
  | .lit (.string bytes) => bytes.length + 1
  | .lit _ => 1
  | .nil => 1
  | .ptr d => uptoBulk d + 1
  | .slice elems spare => uptoBulkAll elems + uptoBulkAll spare + 1
  | .agg parts => uptoBulkAll parts + 1
  | .iface _ d => uptoBulk d + 1
  | .map entries => uptoBulkEntries entries + 1
  | .held _ => 1
def uptoBulkAll {H : Type} : List (DataW H) → Nat
  | [] => 0
  | d :: r => uptoBulk d + uptoBulkAll r
def uptoBulkEntries {H : Type} : List (Lit × DataW H) → Nat
  | [] => 0
  | x :: r => uptoBulkEntry x + uptoBulkEntries r
def uptoBulkEntry {H : Type} : Lit × DataW H → Nat
  | (.string bytes, d) => bytes.length + uptoBulk d + 1
  | (_, d) => uptoBulk d + 1
 end
def uptoSmall : (H : Type) → List (DataW H) → Bool := fun _ ds => decide (uptoBulkAll ds ≤ 1048576)
def OpenSpec.upto (s : _root_.Go.ChangeSpec) : _root_.Go.OpenSpec := { _root_.Go.OpenSpec.ofChange s with cond := some uptoSmall }

/-- 'cambistlaw12.ExchangePlays', WHERE WHAT IT READS IS OF BULK AT MOST 1048576: true; the input reads as it did. -/
def exchangePlaysUptoRow : OpenClaim := { program := "ytacihckimlddbaagreat", sum := "9fb90ec5d1ae8a342e8655b4637f26891adede04b4b21830223f6678cb7b34a9", func := "cambist/cambistlaw12.ExchangePlays", spec := "exchangePlays", inPlace := ["slices.overlaps[cambist/api.Level]"], unfollowed := true, recurses := true, plainKeys := false, apart := false, narrowed := true }
def ExchangePlaysUptoSaid : Prop := exchangePlaysUptoRow.holds Tryz.pinned (OpenSpec.upto exchangePlaysSpec)

/-- 'cambistlaw12.ExchangeBegins', WHERE WHAT IT READS IS OF BULK AT MOST 1048576: true; the input reads as it did. -/
def exchangeBeginsUptoRow : OpenClaim := { program := "ytacihckimlddbaagreat", sum := "9fb90ec5d1ae8a342e8655b4637f26891adede04b4b21830223f6678cb7b34a9", func := "cambist/cambistlaw12.ExchangeBegins", spec := "exchangeBegins", inPlace := ["slices.overlaps[cambist/api.Level]"], unfollowed := true, recurses := true, plainKeys := false, apart := false, narrowed := true }
def ExchangeBeginsUptoSaid : Prop := exchangeBeginsUptoRow.holds Tryz.pinned (OpenSpec.upto exchangeBeginsSpec)

/-- 'cambistlaw12.ExchangeTurns', WHERE WHAT IT READS IS OF BULK AT MOST 1048576: true; the input reads as it did. -/
def exchangeTurnsUptoRow : OpenClaim := { program := "ytacihckimlddbaagreat", sum := "9fb90ec5d1ae8a342e8655b4637f26891adede04b4b21830223f6678cb7b34a9", func := "cambist/cambistlaw12.ExchangeTurns", spec := "exchangeTurns", inPlace := ["slices.overlaps[cambist/api.Level]"], unfollowed := true, recurses := true, plainKeys := false, apart := false, narrowed := true }
def ExchangeTurnsUptoSaid : Prop := exchangeTurnsUptoRow.holds Tryz.pinned (OpenSpec.upto exchangeTurnsSpec)

/-- 'cambistlaw12.ExchangeRight', WHERE WHAT IT READS IS OF BULK AT MOST 1048576: true; the input reads as it did. -/
def exchangeRightUptoRow : OpenClaim := { program := "ytacihckimlddbaagreat", sum := "9fb90ec5d1ae8a342e8655b4637f26891adede04b4b21830223f6678cb7b34a9", func := "cambist/cambistlaw12.ExchangeRight", spec := "exchangeRight", inPlace := ["slices.overlaps[cambist/api.Level]"], unfollowed := true, recurses := true, plainKeys := false, apart := false, narrowed := true }
def ExchangeRightUptoSaid : Prop := exchangeRightUptoRow.holds Tryz.pinned (OpenSpec.upto exchangeRightSpec)

/-- 'cambistlaw12.ExchangeOnce', WHERE WHAT IT READS IS OF BULK AT MOST 1048576: true; the input reads as it did. -/
def exchangeOnceUptoRow : OpenClaim := { program := "ytacihckimlddbaagreat", sum := "9fb90ec5d1ae8a342e8655b4637f26891adede04b4b21830223f6678cb7b34a9", func := "cambist/cambistlaw12.ExchangeOnce", spec := "exchangeOnce", inPlace := ["slices.overlaps[cambist/api.Level]"], unfollowed := true, recurses := true, plainKeys := false, apart := false, narrowed := true }
def ExchangeOnceUptoSaid : Prop := exchangeOnceUptoRow.holds Tryz.pinned (OpenSpec.upto exchangeOnceSpec)

/-- 'cambistlaw12.ExchangeCommutes', WHERE WHAT IT READS IS OF BULK AT MOST 1048576: true; the input reads as it did. -/
def exchangeCommutesUptoRow : OpenClaim := { program := "ytacihckimlddbaagreat", sum := "9fb90ec5d1ae8a342e8655b4637f26891adede04b4b21830223f6678cb7b34a9", func := "cambist/cambistlaw12.ExchangeCommutes", spec := "exchangeCommutes", inPlace := ["slices.overlaps[cambist/api.Level]"], unfollowed := true, recurses := true, plainKeys := false, apart := false, narrowed := true }
def ExchangeCommutesUptoSaid : Prop := exchangeCommutesUptoRow.holds Tryz.pinned (OpenSpec.upto exchangeCommutesSpec)

/-- 'cambistlaw12.ExchangeKeys', WHERE WHAT IT READS IS OF BULK AT MOST 1048576: true; the input reads as it did. -/
def exchangeKeysUptoRow : OpenClaim := { program := "ytacihckimlddbaagreat", sum := "9fb90ec5d1ae8a342e8655b4637f26891adede04b4b21830223f6678cb7b34a9", func := "cambist/cambistlaw12.ExchangeKeys", spec := "exchangeKeys", inPlace := ["slices.overlaps[cambist/api.Level]"], unfollowed := true, recurses := true, plainKeys := false, apart := false, narrowed := true }
def ExchangeKeysUptoSaid : Prop := exchangeKeysUptoRow.holds Tryz.pinned (OpenSpec.upto exchangeKeysSpec)

end Rows
end Go.Proofs.YtacihckimlddbaaGreat
