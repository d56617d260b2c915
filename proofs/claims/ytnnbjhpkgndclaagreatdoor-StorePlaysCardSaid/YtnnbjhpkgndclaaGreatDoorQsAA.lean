/-
  DERIVED. GIVEN WITH THE SEED: THE CARDS: each row of YtnnbjhpkgndclaaGreatDoorRows.lean that lists a variable, with what it lists TIED to the program's text (the seventh form; the later family's looks); each row that meets fmt, with fmt's text TOLD by the authors' own Lean function (tested against real Go, not proved from fmt's source: count such statements apart). THE CARD IS WHAT COUNTS. Prove the row's statement (the work); the ties are given (YtnnbjhpkgndclaaGreatDoorTie.lean); close each card by the builder's one call (the guide's Derived/Test/ToyasCard.lean, 'card_holds'). Laid BY PROGRAM, IN A SANDBOX (cutbox-door.mjs). By AI agents, Wed Nov 11 2026. No macro, syntax, notation, axiom, sorry.
-/
import Derived.Test.YtnnbjhpkgndclaaGreatDoorQsZZ
import Derived.Test.YtnnbjhpkgndclaaGreatDoorRows
import GoSem.ClaimSeven
set_option linter.unusedVariables false
namespace Go.Proofs.YtnnbjhpkgndclaaGreatDoor
namespace Rows
def storePlaysCard : Claim7 := { stood := { row := storePlaysRow,standIns := [],harness := (true,"512ed4a00f6ef5e36b726b4abac2127cd901cf800915a4679d85f3956c612bd9"),looks := false },kinds := [],alts := [],laidByText := true,laidKinds := [.data,.data,.data],laidTests := true,laidLooks := .later }
def StorePlaysCardSaid : Prop := Claim7.holds Tryz.pinned (.plain (OpenSpec.ofChange storePlaysSpec)) storePlaysCard
def storeBytesCard : Claim7 := { stood := { row := storeBytesRow,standIns := [],harness := (true,"512ed4a00f6ef5e36b726b4abac2127cd901cf800915a4679d85f3956c612bd9"),looks := false },kinds := [],alts := [],laidByText := true,laidKinds := [.data,.data,.data],laidTests := true,laidLooks := .later }
def StoreBytesCardSaid : Prop := Claim7.holds Tryz.pinned (.plain (OpenSpec.ofChange storeBytesSpec)) storeBytesCard
def storeKeepsCard : Claim7 := { stood := { row := storeKeepsRow,standIns := [],harness := (true,"512ed4a00f6ef5e36b726b4abac2127cd901cf800915a4679d85f3956c612bd9"),looks := false },kinds := [],alts := [],laidByText := true,laidKinds := [.data,.data,.data],laidTests := true,laidLooks := .later }
def StoreKeepsCardSaid : Prop := Claim7.holds Tryz.pinned (.plain (OpenSpec.ofChange storeKeepsSpec)) storeKeepsCard
def storeFullCard : Claim7 := { stood := { row := storeFullRow,standIns := [],harness := (true,"512ed4a00f6ef5e36b726b4abac2127cd901cf800915a4679d85f3956c612bd9"),looks := false },kinds := [],alts := [],laidByText := true,laidKinds := [.data,.data,.data],laidTests := true,laidLooks := .later }
def StoreFullCardSaid : Prop := Claim7.holds Tryz.pinned (.plain (OpenSpec.ofChange storeFullSpec)) storeFullCard
def storeOpensCard : Claim7 := { stood := { row := storeOpensRow,standIns := [],harness := (true,"512ed4a00f6ef5e36b726b4abac2127cd901cf800915a4679d85f3956c612bd9"),looks := false },kinds := [],alts := [],laidByText := true,laidKinds := [.data,.data,.data],laidTests := true,laidLooks := .later }
def StoreOpensCardSaid : Prop := Claim7.holds Tryz.pinned (.plain (OpenSpec.ofChange storeOpensSpec)) storeOpensCard
end Rows
end Go.Proofs.YtnnbjhpkgndclaaGreatDoor
