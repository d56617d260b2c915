/- What a row's condition on the listed table gives the walks; a world that meets it. -/
import Derived.Test.YtodlibpibopnoaaDoorRows
import Derived.Test.YtodlibpibopnoaaDoorCrA
import Derived.LaidMore
import Derived.Lib.LaidTab
import Derived.Stop.Joined
namespace Go.Proofs.YtodlibpibopnoaaDoor.Cr
open Go.RowKit
set_option linter.unusedVariables false
abbrev laid1 : List (String × DataW Unit) := [("cambist/crc.halfSums", Rows.laid_cambist_crc_halfSums)]
theorem gT : Tryd.prog.globalNamed "cambist/crc.halfSums" = some 0 := by kernel_rfl
theorem gTType : (Tryd.prog.globals[0]?).map (·.type) = some 68 := by kernel_rfl
theorem cellsE : Tryd.prog.cellsOf 61 = 1 := by kernel_rfl
theorem cellsT : Tryd.prog.cellsOf 68 = 16 := by kernel_rfl
theorem met (os : Os) (args : Array Value) : laidMetH Tryd.prog laid1 ((World.doorLaid Tryd.prog 400 os).forCall (fun _ _ => 0) ⟨#[], args, []⟩).memory :=
  laidMetH_of_parts3 (fuel := 8) (laidMet_of_run' 8 (by kernel_rfl) (by kernel_rfl)) (by kernel_rfl) (by kernel_rfl)
theorem tab_of {W : World} (h : laidMetH Tryd.prog laid1 W) : Tab W := by
  rw [MakeChecks.laidMetH_plain _ _ _ (by kernel_rfl)] at h
  have hT := Lib.tabIs_of_head (k := .u32) (zs := tab) (rest := []) gT gTType Tryd.underlying68 Tryd.underlying61 cellsE cellsT h
  intro i hi
  have h2 := hT.cell gT i hi
  rwa [tab_at i hi] at h2
end Go.Proofs.YtodlibpibopnoaaDoor.Cr
