/-
  DERIVED. GIVEN WITH THE SEED: THE CARDS: each row of YtodlibpibopnoaaDoorRows.lean that lists a variable, with what it lists TIED to the program's text (the seventh form; the later family's looks); each row that meets fmt, with fmt's text TOLD by the authors' own Lean function (tested against real Go, not proved from fmt's source: count such statements apart). THE CARD IS WHAT COUNTS. Prove the row's statement (the work); the ties are given (YtodlibpibopnoaaDoorTie.lean); close each card by the builder's one call (the guide's Derived/Test/ToyasCard.lean, 'card_holds'). Laid BY PROGRAM, IN A SANDBOX (cutbox-door.mjs). By AI agents, Wed Nov 11 2026. No macro, syntax, notation, axiom, sorry.
-/
import Derived.Test.YtodlibpibopnoaaDoorRows
import GoSem.ClaimSeven
namespace Go.Proofs.YtodlibpibopnoaaDoor
namespace Rows

/-- THE TIED CARD OF 'cambistlaw15.WalScans'. -/
def walScansCard : Claim7 := { stood := { row := walScansRow, standIns := [], harness := (true, "49ff34f664d950825394cee310a2008d02130ed972018c539fd93b45eda75cf3"), looks := false }, kinds := [], alts := [], laidByText := true, laidKinds := [.data], laidTests := true, laidLooks := .later }
def WalScansCardSaid : Prop := Claim7.holds Tryd.pinned (.plain (OpenSpec.ofChange walScansSpec)) walScansCard

/-- THE TIED CARD OF 'cambistlaw15.WalLays'. -/
def walLaysCard : Claim7 := { stood := { row := walLaysRow, standIns := [], harness := (true, "49ff34f664d950825394cee310a2008d02130ed972018c539fd93b45eda75cf3"), looks := false }, kinds := [], alts := [], laidByText := true, laidKinds := [.data], laidTests := true, laidLooks := .later }
def WalLaysCardSaid : Prop := Claim7.holds Tryd.pinned (.plain (OpenSpec.ofChange walLaysSpec)) walLaysCard

/-- THE TIED CARD OF 'cambistlaw15.WalBack'. -/
def walBackCard : Claim7 := { stood := { row := walBackRow, standIns := [], harness := (true, "49ff34f664d950825394cee310a2008d02130ed972018c539fd93b45eda75cf3"), looks := false }, kinds := [], alts := [], laidByText := true, laidKinds := [.data], laidTests := true, laidLooks := .later }
def WalBackCardSaid : Prop := Claim7.holds Tryd.pinned (.plain (OpenSpec.ofChange walBackSpec)) walBackCard

/-- THE TIED CARD OF 'cambistlaw15.WalJoins'. -/
def walJoinsCard : Claim7 := { stood := { row := walJoinsRow, standIns := [], harness := (true, "49ff34f664d950825394cee310a2008d02130ed972018c539fd93b45eda75cf3"), looks := false }, kinds := [], alts := [], laidByText := true, laidKinds := [.data], laidTests := true, laidLooks := .later }
def WalJoinsCardSaid : Prop := Claim7.holds Tryd.pinned (.plain (OpenSpec.ofChange walJoinsSpec)) walJoinsCard

/-- THE SECOND FORM's CARD OF 'cambistlaw15.WalScans'. -/
def walScansUptoCard : Claim7 := { stood := { row := walScansUptoRow, standIns := [], harness := (true, "49ff34f664d950825394cee310a2008d02130ed972018c539fd93b45eda75cf3"), looks := false }, kinds := [], alts := [], laidByText := true, laidKinds := [.data], laidTests := true, laidLooks := .later }
def WalScansUptoCardSaid : Prop := Claim7.holds Tryd.pinned (.plain (OpenSpec.upto walScansSpec)) walScansUptoCard

/-- THE SECOND FORM's CARD OF 'cambistlaw15.WalLays'. -/
def walLaysUptoCard : Claim7 := { stood := { row := walLaysUptoRow, standIns := [], harness := (true, "49ff34f664d950825394cee310a2008d02130ed972018c539fd93b45eda75cf3"), looks := false }, kinds := [], alts := [], laidByText := true, laidKinds := [.data], laidTests := true, laidLooks := .later }
def WalLaysUptoCardSaid : Prop := Claim7.holds Tryd.pinned (.plain (OpenSpec.upto walLaysSpec)) walLaysUptoCard

/-- THE SECOND FORM's CARD OF 'cambistlaw15.WalBack'. -/
def walBackUptoCard : Claim7 := { stood := { row := walBackUptoRow, standIns := [], harness := (true, "49ff34f664d950825394cee310a2008d02130ed972018c539fd93b45eda75cf3"), looks := false }, kinds := [], alts := [], laidByText := true, laidKinds := [.data], laidTests := true, laidLooks := .later }
def WalBackUptoCardSaid : Prop := Claim7.holds Tryd.pinned (.plain (OpenSpec.upto walBackSpec)) walBackUptoCard

/-- THE SECOND FORM's CARD OF 'cambistlaw15.WalJoins'. -/
def walJoinsUptoCard : Claim7 := { stood := { row := walJoinsUptoRow, standIns := [], harness := (true, "49ff34f664d950825394cee310a2008d02130ed972018c539fd93b45eda75cf3"), looks := false }, kinds := [], alts := [], laidByText := true, laidKinds := [.data], laidTests := true, laidLooks := .later }
def WalJoinsUptoCardSaid : Prop := Claim7.holds Tryd.pinned (.plain (OpenSpec.upto walJoinsSpec)) walJoinsUptoCard
end Rows
end Go.Proofs.YtodlibpibopnoaaDoor
