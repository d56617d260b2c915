/-
  DERIVED. GIVEN WITH THE SEED: THE CARDS: each row of YtinopnmacfkiiaaDoorRows.lean that lists a variable, with what it lists TIED to the program's text (the seventh form; the later family's looks); each row that meets fmt, with fmt's text TOLD by the authors' own Lean function (tested against real Go, not proved from fmt's source: count such statements apart). THE CARD IS WHAT COUNTS. Prove the row's statement (the work); the ties are given (YtinopnmacfkiiaaDoorTie.lean); close each card by the builder's one call (the guide's Derived/Test/ToyasCard.lean, 'card_holds'). Laid BY PROGRAM, IN A SANDBOX (cutbox-door.mjs). By AI agents, Wed Nov 11 2026. No macro, syntax, notation, axiom, sorry.
-/
import Derived.Test.YtinopnmacfkiiaaDoorRows
import GoSem.ClaimSeven
namespace Go.Proofs.YtinopnmacfkiiaaDoor
namespace Rows

/-- THE TIED CARD OF 'cambistlaw06.CommandAsks'. -/
def commandAsksCard : Claim7 := { stood := { row := commandAsksRow, standIns := [], harness := (true, "fa294f9d83068af488e437d80e48ad61ed82cd928cbd0b8ca5f903b0f2b877f9"), looks := false }, kinds := [], alts := [], laidByText := true, laidKinds := [.data], laidTests := true, laidLooks := .later }
def CommandAsksCardSaid : Prop := Claim7.holds Tryd.pinned (.plain (OpenSpec.ofChange commandAsksSpec)) commandAsksCard

/-- THE TIED CARD OF 'cambistlaw06.CommandBytes'. -/
def commandBytesCard : Claim7 := { stood := { row := commandBytesRow, standIns := [], harness := (true, "fa294f9d83068af488e437d80e48ad61ed82cd928cbd0b8ca5f903b0f2b877f9"), looks := false }, kinds := [], alts := [], laidByText := true, laidKinds := [.data], laidTests := true, laidLooks := .later }
def CommandBytesCardSaid : Prop := Claim7.holds Tryd.pinned (.plain (OpenSpec.ofChange commandBytesSpec)) commandBytesCard

/-- THE TIED CARD OF 'cambistlaw06.CommandBack'. -/
def commandBackCard : Claim7 := { stood := { row := commandBackRow, standIns := [], harness := (true, "fa294f9d83068af488e437d80e48ad61ed82cd928cbd0b8ca5f903b0f2b877f9"), looks := false }, kinds := [], alts := [], laidByText := true, laidKinds := [.data], laidTests := true, laidLooks := .later }
def CommandBackCardSaid : Prop := Claim7.holds Tryd.pinned (.plain (OpenSpec.ofChange commandBackSpec)) commandBackCard

/-- THE TIED CARD OF 'cambistlaw06.CommandMeets'. -/
def commandMeetsCard : Claim7 := { stood := { row := commandMeetsRow, standIns := [], harness := (true, "fa294f9d83068af488e437d80e48ad61ed82cd928cbd0b8ca5f903b0f2b877f9"), looks := false }, kinds := [], alts := [], laidByText := true, laidKinds := [.data], laidTests := true, laidLooks := .later }
def CommandMeetsCardSaid : Prop := Claim7.holds Tryd.pinned (.plain (OpenSpec.ofChange commandMeetsSpec)) commandMeetsCard

/-- THE SECOND FORM's CARD OF 'cambistlaw06.CommandAsks'. -/
def commandAsksUptoCard : Claim7 := { stood := { row := commandAsksUptoRow, standIns := [], harness := (true, "fa294f9d83068af488e437d80e48ad61ed82cd928cbd0b8ca5f903b0f2b877f9"), looks := false }, kinds := [], alts := [], laidByText := true, laidKinds := [.data], laidTests := true, laidLooks := .later }
def CommandAsksUptoCardSaid : Prop := Claim7.holds Tryd.pinned (.plain (OpenSpec.upto commandAsksSpec)) commandAsksUptoCard

/-- THE SECOND FORM's CARD OF 'cambistlaw06.CommandBytes'. -/
def commandBytesUptoCard : Claim7 := { stood := { row := commandBytesUptoRow, standIns := [], harness := (true, "fa294f9d83068af488e437d80e48ad61ed82cd928cbd0b8ca5f903b0f2b877f9"), looks := false }, kinds := [], alts := [], laidByText := true, laidKinds := [.data], laidTests := true, laidLooks := .later }
def CommandBytesUptoCardSaid : Prop := Claim7.holds Tryd.pinned (.plain (OpenSpec.upto commandBytesSpec)) commandBytesUptoCard

/-- THE SECOND FORM's CARD OF 'cambistlaw06.CommandBack'. -/
def commandBackUptoCard : Claim7 := { stood := { row := commandBackUptoRow, standIns := [], harness := (true, "fa294f9d83068af488e437d80e48ad61ed82cd928cbd0b8ca5f903b0f2b877f9"), looks := false }, kinds := [], alts := [], laidByText := true, laidKinds := [.data], laidTests := true, laidLooks := .later }
def CommandBackUptoCardSaid : Prop := Claim7.holds Tryd.pinned (.plain (OpenSpec.upto commandBackSpec)) commandBackUptoCard

/-- THE SECOND FORM's CARD OF 'cambistlaw06.CommandMeets'. -/
def commandMeetsUptoCard : Claim7 := { stood := { row := commandMeetsUptoRow, standIns := [], harness := (true, "fa294f9d83068af488e437d80e48ad61ed82cd928cbd0b8ca5f903b0f2b877f9"), looks := false }, kinds := [], alts := [], laidByText := true, laidKinds := [.data], laidTests := true, laidLooks := .later }
def CommandMeetsUptoCardSaid : Prop := Claim7.holds Tryd.pinned (.plain (OpenSpec.upto commandMeetsSpec)) commandMeetsUptoCard
end Rows
end Go.Proofs.YtinopnmacfkiiaaDoor
