/- An instance that came in; what a row's condition on the two listed arrays gives the walks; a world that meets it. -/
import Derived.Test.YtngnkjbcnmcngaaDoorRcM
import Derived.Test.YtngnkjbcnmcngaaDoorCmFr
namespace Go.Proofs.YtngnkjbcnmcngaaDoor.Rc
open Go.RowKit
set_option linter.unusedVariables false
open Go.ChangeShapes Go.WideShapes Go.ChangeAt
open Go.Proofs.YtngnkjbcnmcngaaDoor.Rw
open Go.Proofs.YtngnkjbcnmcngaaDoor.Cm (Tab)
theorem in_part {L : List Value} {k m j : Nat} {v : Value} (h : ((L.drop k).take m)[j]? = some v) : L[k + j]? = some v := by
  rw [List.getElem?_take] at h
  split at h
  · rw [List.getElem?_drop] at h; exact h
  · cases h
section
variable {H : Type} {enc : TypeId × Value → H} {W : World} {base : Nat} {sp : Nat → Bool} {held : Bool} {n : Nat}
theorem int_at {L : List Value} {k : Nat} {y : DataW H × List MemPlace} (h : DataW.trod enc Tryd.prog W base sp held n 3 ((L.drop k).take (Tryd.prog.cellsOf 3)) = some y) : ∃ a : Int, L[k]? = some (.int .i64 a) := by
  rw [Cm.cellsI] at h
  obtain ⟨a, e, _, _⟩ := DataW.trod_int Tryd.underlying3 h
  refine ⟨a, ?_⟩
  have e2 : ((L.drop k).take 1)[0]? = some (.int .i64 a) := by rw [e]; rfl
  have := in_part e2
  simpa using this
theorem bool_at {L : List Value} {k : Nat} {y : DataW H × List MemPlace} (h : DataW.trod enc Tryd.prog W base sp held n 4 ((L.drop k).take (Tryd.prog.cellsOf 4)) = some y) : ∃ a : Bool, L[k]? = some (.bool a) := by
  rw [show Tryd.prog.cellsOf 4 = 1 by kernel_rfl] at h
  obtain ⟨a, e, _⟩ := DataW.trod_bool Tryd.underlying4 h
  refine ⟨a, ?_⟩
  have e2 : ((L.drop k).take 1)[0]? = some (.bool a) := by rw [e]; rfl
  have := in_part e2
  simpa using this
theorem place_at {L : List Value} {k : Nat} {y : DataW H × List MemPlace} (h : DataW.trod enc Tryd.prog W base sp held n 23 ((L.drop k).take (Tryd.prog.cellsOf 23)) = some y) : ∀ j, j < 2 → ∃ a : Int, L[k + j]? = some (.int .i64 a) := by
  obtain ⟨xs, m, _, _, _, hlen, hg⟩ := DataW.trod_struct Tryd.underlying23 h
  have f := fun (i : Nat) (hi : i < 2) => (List.getElem?_eq_getElem (l := xs) (i := i) (by rw [hlen]; exact hi))
  intro j hj
  match j, hj with
  | 0, _ => obtain ⟨a, e⟩ := int_at ((hg 0 _ rfl).trans (f 0 (by omega))); exact ⟨a, in_part e⟩
  | 1, _ => obtain ⟨a, e⟩ := int_at ((hg 1 _ rfl).trans (f 1 (by omega))); exact ⟨a, in_part e⟩
theorem ballot_at {L : List Value} {k : Nat} {y : DataW H × List MemPlace} (h : DataW.trod enc Tryd.prog W base sp held n 25 ((L.drop k).take (Tryd.prog.cellsOf 25)) = some y) : ∀ j, j < 2 → ∃ a : Int, L[k + j]? = some (.int .i64 a) := by
  obtain ⟨xs, m, _, _, _, hlen, hg⟩ := DataW.trod_struct Tryd.underlying25 h
  have f := fun (i : Nat) (hi : i < 2) => (List.getElem?_eq_getElem (l := xs) (i := i) (by rw [hlen]; exact hi))
  intro j hj
  match j, hj with
  | 0, _ => obtain ⟨a, e⟩ := int_at ((hg 0 _ rfl).trans (f 0 (by omega))); exact ⟨a, in_part e⟩
  | 1, _ => obtain ⟨a, e⟩ := int_at ((hg 1 _ rfl).trans (f 1 (by omega))); exact ⟨a, in_part e⟩
theorem cmd_at {L : List Value} {k : Nat} {y : DataW H × List MemPlace} (h : DataW.trod enc Tryd.prog W base sp held n 27 ((L.drop k).take (Tryd.prog.cellsOf 27)) = some y) : ∀ j, j < 9 → ∃ a : Int, L[k + j]? = some (.int .i64 a) := by
  obtain ⟨xs, m, _, _, _, hlen, hg⟩ := DataW.trod_struct Tryd.underlying27 h
  have f := fun (i : Nat) (hi : i < 9) => (List.getElem?_eq_getElem (l := xs) (i := i) (by rw [hlen]; exact hi))
  intro j hj
  match j, hj with
  | 0, _ => obtain ⟨a, e⟩ := int_at ((hg 0 _ rfl).trans (f 0 (by omega))); exact ⟨a, in_part e⟩
  | 1, _ => obtain ⟨a, e⟩ := int_at ((hg 1 _ rfl).trans (f 1 (by omega))); exact ⟨a, in_part e⟩
  | 2, _ => obtain ⟨a, e⟩ := int_at ((hg 2 _ rfl).trans (f 2 (by omega))); exact ⟨a, in_part e⟩
  | 3, _ => obtain ⟨a, e⟩ := int_at ((hg 3 _ rfl).trans (f 3 (by omega))); exact ⟨a, in_part e⟩
  | 4, _ => obtain ⟨a, e⟩ := int_at ((hg 4 _ rfl).trans (f 4 (by omega))); exact ⟨a, in_part e⟩
  | 5, _ => obtain ⟨a, e⟩ := int_at ((hg 5 _ rfl).trans (f 5 (by omega))); exact ⟨a, in_part e⟩
  | 6, _ => obtain ⟨a, e⟩ := int_at ((hg 6 _ rfl).trans (f 6 (by omega))); exact ⟨a, in_part e⟩
  | 7, _ => obtain ⟨a, e⟩ := int_at ((hg 7 _ rfl).trans (f 7 (by omega))); exact ⟨a, in_part e⟩
  | 8, _ => obtain ⟨a, e⟩ := int_at ((hg 8 _ rfl).trans (f 8 (by omega))); exact ⟨a, in_part e⟩
theorem vec_at {L : List Value} {k : Nat} {y : DataW H × List MemPlace} (h : DataW.trod enc Tryd.prog W base sp held n 29 ((L.drop k).take (Tryd.prog.cellsOf 29)) = some y) : ∀ j, j < 7 → ∃ a : Int, L[k + j]? = some (.int .i64 a) := by
  obtain ⟨xs, m, _, _, _, hlen, hg⟩ := DataW.trod_array Tryd.underlying29 h
  intro j hj
  obtain ⟨a, e⟩ := int_at ((hg j hj).trans (List.getElem?_eq_getElem (by rw [hlen]; exact hj)))
  rw [Cm.cellsI, Nat.mul_one] at e
  exact ⟨a, in_part e⟩
theorem val_at {L : List Value} {k : Nat} {y : DataW H × List MemPlace} (h : DataW.trod enc Tryd.prog W base sp held n 31 ((L.drop k).take (Tryd.prog.cellsOf 31)) = some y) : ∀ j, j < 17 → ∃ a : Int, L[k + j]? = some (.int .i64 a) := by
  obtain ⟨xs, m, _, _, _, hlen, hg⟩ := DataW.trod_struct Tryd.underlying31 h
  have f0 := cmd_at ((hg 0 _ rfl).trans (List.getElem?_eq_getElem (by rw [hlen]; decide)))
  have f1 := int_at ((hg 1 _ rfl).trans (List.getElem?_eq_getElem (by rw [hlen]; decide)))
  have f2 := vec_at ((hg 2 _ rfl).trans (List.getElem?_eq_getElem (by rw [hlen]; decide)))
  intro j hj
  by_cases h1 : j < 9
  · obtain ⟨a, e⟩ := f0 j h1
    have e := in_part e
    exact ⟨a, by rw [← e]; congr 1; show k + j = k + (0 + j); omega⟩
  · by_cases h2 : j = 9
    · obtain ⟨a, e⟩ := f1
      have e := in_part e
      subst h2
      exact ⟨a, e⟩
    · obtain ⟨a, e⟩ := f2 (j - 10) (by omega)
      have e := in_part e
      exact ⟨a, by rw [← e]; congr 1; show k + j = k + (10 + (j - 10)); omega⟩
end
def booOf : Option Value → Bool
  | some (.bool b) => b
  | _ => false
theorem open_ins {H : Type} {enc : TypeId × Value → H} {W : World} {r : Reach} {base b0 : Nat} {sp : Nat → Bool} {held : Bool} {v : Value} {d : DataW H} {p : List MemPlace}
    (hv : Value.okWide Tryd.prog W r b0 33 v) (h : DataW.Trod enc Tryd.prog W base sp held 33 v d p) : ∃ i : Ins, v = .agg (ci i) := by
  obtain ⟨cs, rfl, hsz⟩ := okWide_struct fieldsI hv
  rw [show Tryd.prog.cellsOf 33 = 25 by kernel_rfl] at hsz
  obtain ⟨fuel, hf⟩ := h
  obtain ⟨xs, n, _, _, hl, hlen, hg⟩ := DataW.trod_struct Tryd.underlying33 hf
  have f0 := place_at ((hg 0 _ rfl).trans (List.getElem?_eq_getElem (by rw [hlen]; decide)))
  have f1 := ballot_at ((hg 1 _ rfl).trans (List.getElem?_eq_getElem (by rw [hlen]; decide)))
  have f2 := ballot_at ((hg 2 _ rfl).trans (List.getElem?_eq_getElem (by rw [hlen]; decide)))
  have f3 := int_at ((hg 3 _ rfl).trans (List.getElem?_eq_getElem (by rw [hlen]; decide)))
  have f4 := val_at ((hg 4 _ rfl).trans (List.getElem?_eq_getElem (by rw [hlen]; decide)))
  have f5 := bool_at ((hg 5 _ rfl).trans (List.getElem?_eq_getElem (by rw [hlen]; decide)))
  have all : ∀ j, j < 24 → ∃ a : Int, cs[j]? = some (.int .i64 a) := by
    intro j hj
    have hc : cs[j]? = cs.toList[j]? := by simp
    rw [hc]
    by_cases h1 : j < 2
    · obtain ⟨a, e⟩ := f0 j h1
      exact ⟨a, by rw [← e]; congr 1; show j = 0 + j; omega⟩
    · by_cases h2 : j < 4
      · obtain ⟨a, e⟩ := f1 (j - 2) (by omega)
        exact ⟨a, by rw [← e]; congr 1; show j = 2 + (j - 2); omega⟩
      · by_cases h3 : j < 6
        · obtain ⟨a, e⟩ := f2 (j - 4) (by omega)
          exact ⟨a, by rw [← e]; congr 1; show j = 4 + (j - 4); omega⟩
        · by_cases h4 : j = 6
          · obtain ⟨a, e⟩ := f3
            subst h4
            exact ⟨a, e⟩
          · obtain ⟨a, e⟩ := f4 (j - 7) (by omega)
            exact ⟨a, by rw [← e]; congr 1; show j = 7 + (j - 7); omega⟩
  obtain ⟨b, hb⟩ : ∃ b : Bool, cs[24]? = some (.bool b) := by
    obtain ⟨a, e⟩ := f5
    exact ⟨a, by rw [show cs[24]? = cs.toList[24]? by simp]; exact e⟩
  refine ⟨⟨numOf cs[0]?, numOf cs[1]?, numOf cs[2]?, numOf cs[3]?, numOf cs[4]?, numOf cs[5]?, numOf cs[6]?, fun k => numOf cs[7 + k]?, numOf cs[16]?, fun k => numOf cs[17 + k]?, b⟩, ?_⟩
  congr 1
  apply Array.ext_getElem?
  intro j
  by_cases hj : j < 24
  · obtain ⟨a, e⟩ := all j hj
    have key : ∀ k, k < 24 → (ci ⟨numOf cs[0]?, numOf cs[1]?, numOf cs[2]?, numOf cs[3]?, numOf cs[4]?, numOf cs[5]?, numOf cs[6]?, fun k => numOf cs[7 + k]?, numOf cs[16]?, fun k => numOf cs[17 + k]?, b⟩)[k]? = some (.int .i64 (numOf cs[k]?)) := by
      intro k hk
      match k, hk with
      | 0, _ => rfl | 1, _ => rfl | 2, _ => rfl | 3, _ => rfl | 4, _ => rfl | 5, _ => rfl | 6, _ => rfl | 7, _ => rfl | 8, _ => rfl | 9, _ => rfl | 10, _ => rfl | 11, _ => rfl
      | 12, _ => rfl | 13, _ => rfl | 14, _ => rfl | 15, _ => rfl | 16, _ => rfl | 17, _ => rfl | 18, _ => rfl | 19, _ => rfl | 20, _ => rfl | 21, _ => rfl | 22, _ => rfl | 23, _ => rfl
      | (_ + 24), h => exact absurd h (by omega)
    rw [key j hj, e]; rfl
  · by_cases hj2 : j = 24
    · subst hj2; rw [hb]; rfl
    · rw [Array.getElem?_eq_none (by omega), Array.getElem?_eq_none (by rw [ci_size]; omega)]
abbrev laid1 : List (String × DataW Unit) := [("cambist/command.widths", Rows.laid_cambist_command_widths), ("cambist/record.widths", Rows.laid_cambist_record_widths)]
def whL : List Int := [1, 2, 1, 1, 4, 1, 4, 1]
theorem gR : Tryd.prog.globalNamed "cambist/record.widths" = some 0 := by kernel_rfl
theorem gRType : (Tryd.prog.globals[0]?).map (·.type) = some 52 := by kernel_rfl
theorem cellsR : Tryd.prog.cellsOf 52 = 8 := by kernel_rfl
theorem met (os : Os) (args : Array Value) : laidMetH Tryd.prog laid1 ((World.doorLaid Tryd.prog 400 os).forCall (fun _ _ => 0) ⟨#[], args, []⟩).memory :=
  laidMetH_of_parts3 (fuel := 8) (laidMet_of_run' 8 (by kernel_rfl) (by kernel_rfl)) (by kernel_rfl) (by kernel_rfl)
theorem laid_tail {P : Program} {W : World} {x : String × DataW Unit} {r : List (String × DataW Unit)} (h : laidMet P (x :: r) W) : laidMet P r W := by
  obtain ⟨ps, ⟨g', t', cs, fuel, p, q, hg', ht', hvar, hd, hr, hps⟩, hnd, hall⟩ := h
  subst hps
  exact ⟨q, hr, (List.nodup_append.1 hnd).2.1, fun b off hm => hall b off (List.mem_append_right _ hm)⟩
theorem tab_of {W : World} (h : laidMetH Tryd.prog laid1 W) : Tab W ∧ Tb W := by
  rw [MakeChecks.laidMetH_plain _ _ _ (by kernel_rfl)] at h
  refine ⟨?_, ?_⟩
  · have hT := Lib.tabIs_of_head (k := .i64) (zs := Cm.wdL) Cm.gT Cm.gTType Tryd.underlying80 Tryd.underlying3 Cm.cellsI Cm.cellsT h
    unfold Lib.TabIs World.var? at hT
    rw [Cm.gT] at hT
    simp only [Option.bind_some] at hT
    unfold Tab row
    split at hT
    · rename_i cs t fr e
      rw [e]
      exact Option.some.inj hT
    · cases hT
  · have hT := Lib.tabIs_of_head (k := .i64) (zs := whL) (rest := []) gR gRType Tryd.underlying52 Tryd.underlying3 Cm.cellsI cellsR (laid_tail h)
    unfold Lib.TabIs World.var? at hT
    rw [gR] at hT
    simp only [Option.bind_some] at hT
    unfold Tb row
    split at hT
    · rename_i cs t fr e
      rw [e]
      exact Option.some.inj hT
    · cases hT
end Go.Proofs.YtngnkjbcnmcngaaDoor.Rc
