/-
  DERIVED. GIVEN WITH THE SEED: THE CARDS: each row of YtngnkjbcnmcngaaDoorRows.lean that lists a variable, with what it lists TIED to the program's text (the seventh form; the later family's looks); each row that meets fmt, with fmt's text TOLD by the authors' own Lean function (tested against real Go, not proved from fmt's source: count such statements apart). THE CARD IS WHAT COUNTS. Prove the row's statement (the work); the ties are given (YtngnkjbcnmcngaaDoorTie.lean); close each card by the builder's one call (the guide's Derived/Test/ToyasCard.lean, 'card_holds'). Laid BY PROGRAM, IN A SANDBOX (cutbox-door.mjs). By AI agents, Wed Nov 11 2026. No macro, syntax, notation, axiom, sorry.
-/
import Derived.Test.YtngnkjbcnmcngaaDoorRows
import GoSem.ClaimSeven
namespace Go.Proofs.YtngnkjbcnmcngaaDoor
namespace Rows

/-- THE TIED CARD OF 'cambistlaw16.RecordWrites'. -/
def recordWritesCard : Claim7 := { stood := { row := recordWritesRow, standIns := [], harness := (true, "aa858414d5c9074083824f21c08c4d262cd744952ebc5fd1395726f8179f67b5"), looks := false }, kinds := [], alts := [], laidByText := true, laidKinds := [.data, .data], laidTests := true, laidLooks := .later }
def RecordWritesCardSaid : Prop := Claim7.holds Tryd.pinned (.plain (OpenSpec.ofChange recordWritesSpec)) recordWritesCard

/-- THE TIED CARD OF 'cambistlaw16.RecordReads'. -/
def recordReadsCard : Claim7 := { stood := { row := recordReadsRow, standIns := [], harness := (true, "aa858414d5c9074083824f21c08c4d262cd744952ebc5fd1395726f8179f67b5"), looks := false }, kinds := [], alts := [], laidByText := true, laidKinds := [.data, .data], laidTests := true, laidLooks := .later }
def RecordReadsCardSaid : Prop := Claim7.holds Tryd.pinned (.plain (OpenSpec.ofChange recordReadsSpec)) recordReadsCard

/-- THE TIED CARD OF 'cambistlaw16.RecordBack'. -/
def recordBackCard : Claim7 := { stood := { row := recordBackRow, standIns := [], harness := (true, "aa858414d5c9074083824f21c08c4d262cd744952ebc5fd1395726f8179f67b5"), looks := false }, kinds := [], alts := [], laidByText := true, laidKinds := [.data, .data], laidTests := true, laidLooks := .later }
def RecordBackCardSaid : Prop := Claim7.holds Tryd.pinned (.plain (OpenSpec.ofChange recordBackSpec)) recordBackCard

/-- THE TIED CARD OF 'cambistlaw16.RecordShort'. -/
def recordShortCard : Claim7 := { stood := { row := recordShortRow, standIns := [], harness := (true, "aa858414d5c9074083824f21c08c4d262cd744952ebc5fd1395726f8179f67b5"), looks := false }, kinds := [], alts := [], laidByText := true, laidKinds := [.data, .data], laidTests := true, laidLooks := .later }
def RecordShortCardSaid : Prop := Claim7.holds Tryd.pinned (.plain (OpenSpec.ofChange recordShortSpec)) recordShortCard

/-- THE SECOND FORM's CARD OF 'cambistlaw16.RecordWrites'. -/
def recordWritesUptoCard : Claim7 := { stood := { row := recordWritesUptoRow, standIns := [], harness := (true, "aa858414d5c9074083824f21c08c4d262cd744952ebc5fd1395726f8179f67b5"), looks := false }, kinds := [], alts := [], laidByText := true, laidKinds := [.data, .data], laidTests := true, laidLooks := .later }
def RecordWritesUptoCardSaid : Prop := Claim7.holds Tryd.pinned (.plain (OpenSpec.upto recordWritesSpec)) recordWritesUptoCard

/-- THE SECOND FORM's CARD OF 'cambistlaw16.RecordReads'. -/
def recordReadsUptoCard : Claim7 := { stood := { row := recordReadsUptoRow, standIns := [], harness := (true, "aa858414d5c9074083824f21c08c4d262cd744952ebc5fd1395726f8179f67b5"), looks := false }, kinds := [], alts := [], laidByText := true, laidKinds := [.data, .data], laidTests := true, laidLooks := .later }
def RecordReadsUptoCardSaid : Prop := Claim7.holds Tryd.pinned (.plain (OpenSpec.upto recordReadsSpec)) recordReadsUptoCard

/-- THE SECOND FORM's CARD OF 'cambistlaw16.RecordBack'. -/
def recordBackUptoCard : Claim7 := { stood := { row := recordBackUptoRow, standIns := [], harness := (true, "aa858414d5c9074083824f21c08c4d262cd744952ebc5fd1395726f8179f67b5"), looks := false }, kinds := [], alts := [], laidByText := true, laidKinds := [.data, .data], laidTests := true, laidLooks := .later }
def RecordBackUptoCardSaid : Prop := Claim7.holds Tryd.pinned (.plain (OpenSpec.upto recordBackSpec)) recordBackUptoCard

/-- THE SECOND FORM's CARD OF 'cambistlaw16.RecordShort'. -/
def recordShortUptoCard : Claim7 := { stood := { row := recordShortUptoRow, standIns := [], harness := (true, "aa858414d5c9074083824f21c08c4d262cd744952ebc5fd1395726f8179f67b5"), looks := false }, kinds := [], alts := [], laidByText := true, laidKinds := [.data, .data], laidTests := true, laidLooks := .later }
def RecordShortUptoCardSaid : Prop := Claim7.holds Tryd.pinned (.plain (OpenSpec.upto recordShortSpec)) recordShortUptoCard
end Rows
end Go.Proofs.YtngnkjbcnmcngaaDoor
