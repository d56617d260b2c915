/- A command that came in is nine numbers (split off from CmFr). -/
import Derived.Test.YtmaecknjamnnpaaCmEq
import Derived.ChangeSame
import Derived.OpenShut
import Derived.Lib.SmallJoins
namespace Go.Proofs.Ytmaecknjamnnpaa.Cm
open Go.RowKit
set_option linter.unusedVariables false
open Go.ChangeShapes Go.WideShapes Go.ChangeAt
open Go.Proofs.Ytmaecknjamnnpaa.Rw
theorem cellsC : Try.prog.cellsOf 28 = 9 := by kernel_rfl
theorem cellsI : Try.prog.cellsOf 3 = 1 := by kernel_rfl
def numOf : Option Value → Int
  | some (.int _ x) => x
  | _ => 0
set_option maxRecDepth 20000 in
theorem open_cmd {H : Type} {enc : TypeId × Value → H} {W : World} {r : Reach} {base b0 : Nat} {sp : Nat → Bool} {held : Bool} {v : Value} {d : DataW H} {p : List MemPlace}
    (hv : Value.okWide Try.prog W r b0 28 v) (h : DataW.Trod enc Try.prog W base sp held 28 v d p) : ∃ f : Nat → Int, v = .agg (fc f) := by
  obtain ⟨cs, rfl, hsz⟩ := okWide_struct Try.underlying28 hv
  obtain ⟨fuel, hf⟩ := h
  obtain ⟨xs, n, _, _, hl, hlen, hg⟩ := DataW.trod_struct Try.underlying28 hf
  rw [cellsC] at hsz
  have key : ∀ (i : Nat) (f : Field), f.type = 3 → f.offset = i → i < 9 → (∃ y, DataW.trod enc Try.prog W base sp held n f.type (((Value.agg cs).cells.toList.drop f.offset).take (Try.prog.cellsOf f.type)) = some y) → ∃ a : Int, cs[i]? = some (.int .i64 a) := by
    intro i f ht ho hi ⟨y, hy⟩
    rw [ht, ho, cellsI] at hy
    obtain ⟨a, e, _, _⟩ := DataW.trod_int Try.underlying3 hy
    refine ⟨a, ?_⟩
    have e2 : ((cs.toList.drop i).take 1)[0]? = some (.int .i64 a) := by
      have : (Value.agg cs).cells.toList = cs.toList := rfl
      rw [this] at e; rw [e]; rfl
    simpa using e2
  have all : ∀ i, i < 9 → ∃ a : Int, cs[i]? = some (.int .i64 a) := by
    intro i hi
    match i, hi with
    | 0, _ => exact key 0 _ rfl rfl (by omega) ⟨_, (hg 0 _ rfl).trans (List.getElem?_eq_getElem (by rw [hlen]; decide))⟩
    | 1, _ => exact key 1 _ rfl rfl (by omega) ⟨_, (hg 1 _ rfl).trans (List.getElem?_eq_getElem (by rw [hlen]; decide))⟩
    | 2, _ => exact key 2 _ rfl rfl (by omega) ⟨_, (hg 2 _ rfl).trans (List.getElem?_eq_getElem (by rw [hlen]; decide))⟩
    | 3, _ => exact key 3 _ rfl rfl (by omega) ⟨_, (hg 3 _ rfl).trans (List.getElem?_eq_getElem (by rw [hlen]; decide))⟩
    | 4, _ => exact key 4 _ rfl rfl (by omega) ⟨_, (hg 4 _ rfl).trans (List.getElem?_eq_getElem (by rw [hlen]; decide))⟩
    | 5, _ => exact key 5 _ rfl rfl (by omega) ⟨_, (hg 5 _ rfl).trans (List.getElem?_eq_getElem (by rw [hlen]; decide))⟩
    | 6, _ => exact key 6 _ rfl rfl (by omega) ⟨_, (hg 6 _ rfl).trans (List.getElem?_eq_getElem (by rw [hlen]; decide))⟩
    | 7, _ => exact key 7 _ rfl rfl (by omega) ⟨_, (hg 7 _ rfl).trans (List.getElem?_eq_getElem (by rw [hlen]; decide))⟩
    | 8, _ => exact key 8 _ rfl rfl (by omega) ⟨_, (hg 8 _ rfl).trans (List.getElem?_eq_getElem (by rw [hlen]; decide))⟩
  refine ⟨fun i => numOf cs[i]?, ?_⟩
  congr 1
  apply Array.ext_getElem?
  intro i
  by_cases hi : i < 9
  · obtain ⟨a, e⟩ := all i hi
    rw [fc_at _ i hi, e]
    simp [numOf]
  · rw [Array.getElem?_eq_none (by omega), Array.getElem?_eq_none (by rw [fc_size]; omega)]
end Go.Proofs.Ytmaecknjamnnpaa.Cm
