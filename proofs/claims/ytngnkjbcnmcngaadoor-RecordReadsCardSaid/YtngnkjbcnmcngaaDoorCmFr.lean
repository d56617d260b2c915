/- A command that came in is nine numbers; what a row's condition on the listed array gives the walks; a world that meets it. -/
import Derived.Test.YtngnkjbcnmcngaaDoorCmH
import Derived.ChangeSame
import Derived.OpenShut
import Derived.LaidMore
import Derived.Lib.LaidTab
import Derived.Lib.SmallJoins
import Derived.Stop.Joined
namespace Go.Proofs.YtngnkjbcnmcngaaDoor.Cm
open Go.RowKit
set_option linter.unusedVariables false
open Go.ChangeShapes Go.WideShapes Go.ChangeAt
open Go.Proofs.YtngnkjbcnmcngaaDoor.Rw
theorem cellsC : Tryd.prog.cellsOf 27 = 9 := by kernel_rfl
theorem cellsI : Tryd.prog.cellsOf 3 = 1 := by kernel_rfl
def numOf : Option Value → Int
  | some (.int _ x) => x
  | _ => 0
theorem open_cmd {H : Type} {enc : TypeId × Value → H} {W : World} {r : Reach} {base b0 : Nat} {sp : Nat → Bool} {held : Bool} {v : Value} {d : DataW H} {p : List MemPlace}
    (hv : Value.okWide Tryd.prog W r b0 27 v) (h : DataW.Trod enc Tryd.prog W base sp held 27 v d p) : ∃ f : Nat → Int, v = .agg (fc f) := by
  obtain ⟨cs, rfl, hsz⟩ := okWide_struct Tryd.underlying27 hv
  obtain ⟨fuel, hf⟩ := h
  obtain ⟨xs, n, _, _, hl, hlen, hg⟩ := DataW.trod_struct Tryd.underlying27 hf
  rw [cellsC] at hsz
  have key : ∀ (i : Nat) (f : Field), f.type = 3 → f.offset = i → i < 9 → (∃ y, DataW.trod enc Tryd.prog W base sp held n f.type (((Value.agg cs).cells.toList.drop f.offset).take (Tryd.prog.cellsOf f.type)) = some y) → ∃ a : Int, cs[i]? = some (.int .i64 a) := by
    intro i f ht ho hi ⟨y, hy⟩
    rw [ht, ho, cellsI] at hy
    obtain ⟨a, e, _, _⟩ := DataW.trod_int Tryd.underlying3 hy
    refine ⟨a, ?_⟩
    have e2 : ((cs.toList.drop i).take 1)[0]? = some (.int .i64 a) := by
      have : (Value.agg cs).cells.toList = cs.toList := rfl
      rw [this] at e; rw [e]; rfl
    simpa using e2
  have all : ∀ i, i < 9 → ∃ a : Int, cs[i]? = some (.int .i64 a) := by
    intro i hi
    match i, hi with
    | 0, _ => exact key 0 _ rfl rfl (by omega) ⟨_, (hg 0 _ rfl).trans (List.getElem?_eq_getElem (by rw [hlen]; decide))⟩
    | 1, _ => exact key 1 _ rfl rfl (by omega) ⟨_, (hg 1 _ rfl).trans (List.getElem?_eq_getElem (by rw [hlen]; decide))⟩
    | 2, _ => exact key 2 _ rfl rfl (by omega) ⟨_, (hg 2 _ rfl).trans (List.getElem?_eq_getElem (by rw [hlen]; decide))⟩
    | 3, _ => exact key 3 _ rfl rfl (by omega) ⟨_, (hg 3 _ rfl).trans (List.getElem?_eq_getElem (by rw [hlen]; decide))⟩
    | 4, _ => exact key 4 _ rfl rfl (by omega) ⟨_, (hg 4 _ rfl).trans (List.getElem?_eq_getElem (by rw [hlen]; decide))⟩
    | 5, _ => exact key 5 _ rfl rfl (by omega) ⟨_, (hg 5 _ rfl).trans (List.getElem?_eq_getElem (by rw [hlen]; decide))⟩
    | 6, _ => exact key 6 _ rfl rfl (by omega) ⟨_, (hg 6 _ rfl).trans (List.getElem?_eq_getElem (by rw [hlen]; decide))⟩
    | 7, _ => exact key 7 _ rfl rfl (by omega) ⟨_, (hg 7 _ rfl).trans (List.getElem?_eq_getElem (by rw [hlen]; decide))⟩
    | 8, _ => exact key 8 _ rfl rfl (by omega) ⟨_, (hg 8 _ rfl).trans (List.getElem?_eq_getElem (by rw [hlen]; decide))⟩
  refine ⟨fun i => numOf cs[i]?, ?_⟩
  congr 1
  apply Array.ext_getElem?
  intro i
  by_cases hi : i < 9
  · obtain ⟨a, e⟩ := all i hi
    rw [fc_at _ i hi, e]
    simp [numOf]
  · rw [Array.getElem?_eq_none (by omega), Array.getElem?_eq_none (by rw [fc_size]; omega)]
abbrev laid1 : List (String × DataW Unit) := [("cambist/command.widths", Rows.laid_cambist_command_widths)]
def wdL : List Int := [1, 1, 1, 1, 1, 7, 7, 7, 4]
theorem gT : Tryd.prog.globalNamed "cambist/command.widths" = some 1 := by kernel_rfl
theorem gTType : (Tryd.prog.globals[1]?).map (·.type) = some 80 := by kernel_rfl
theorem cellsT : Tryd.prog.cellsOf 80 = 9 := by kernel_rfl
theorem met (os : Os) (args : Array Value) : laidMetH Tryd.prog laid1 ((World.doorLaid Tryd.prog 400 os).forCall (fun _ _ => 0) ⟨#[], args, []⟩).memory :=
  laidMetH_of_parts3 (fuel := 8) (laidMet_of_run' 8 (by kernel_rfl) (by kernel_rfl)) (by kernel_rfl) (by kernel_rfl)
theorem tab_of {W : World} (h : laidMetH Tryd.prog laid1 W) : Tab W := by
  rw [MakeChecks.laidMetH_plain _ _ _ (by kernel_rfl)] at h
  have hT := Lib.tabIs_of_head (k := .i64) (zs := wdL) (rest := []) gT gTType Tryd.underlying80 Tryd.underlying3 cellsI cellsT h
  unfold Lib.TabIs World.var? at hT
  rw [gT] at hT
  simp only [Option.bind_some] at hT
  unfold Tab row
  split at hT
  · rename_i cs t fr e
    rw [e]
    exact Option.some.inj hT
  · cases hT
end Go.Proofs.YtngnkjbcnmcngaaDoor.Cm
