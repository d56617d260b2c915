/- An instance that came in (split off from RcFr). -/
import Derived.Test.YtmaecknjamnnpaaRcI
import Derived.Test.YtmaecknjamnnpaaCmOp
namespace Go.Proofs.Ytmaecknjamnnpaa.Rc
open Go.RowKit
set_option linter.unusedVariables false
set_option maxRecDepth 20000
open Go.ChangeShapes Go.WideShapes Go.ChangeAt
open Go.Proofs.Ytmaecknjamnnpaa.Rw
theorem in_part {L : List Value} {k m j : Nat} {v : Value} (h : ((L.drop k).take m)[j]? = some v) : L[k + j]? = some v := by
  rw [List.getElem?_take] at h
  split at h
  · rw [List.getElem?_drop] at h; exact h
  · cases h
section
variable {H : Type} {enc : TypeId × Value → H} {W : World} {base : Nat} {sp : Nat → Bool} {held : Bool} {n : Nat}
theorem int_at {L : List Value} {k : Nat} {y : DataW H × List MemPlace} (h : DataW.trod enc Try.prog W base sp held n 3 ((L.drop k).take (Try.prog.cellsOf 3)) = some y) : ∃ a : Int, L[k]? = some (.int .i64 a) := by
  rw [Cm.cellsI] at h
  obtain ⟨a, e, _, _⟩ := DataW.trod_int Try.underlying3 h
  refine ⟨a, ?_⟩
  have e2 : ((L.drop k).take 1)[0]? = some (.int .i64 a) := by rw [e]; rfl
  have := in_part e2
  simpa using this
theorem bool_at {L : List Value} {k : Nat} {y : DataW H × List MemPlace} (h : DataW.trod enc Try.prog W base sp held n 4 ((L.drop k).take (Try.prog.cellsOf 4)) = some y) : ∃ a : Bool, L[k]? = some (.bool a) := by
  rw [show Try.prog.cellsOf 4 = 1 by kernel_rfl] at h
  obtain ⟨a, e, _⟩ := DataW.trod_bool Try.underlying4 h
  refine ⟨a, ?_⟩
  have e2 : ((L.drop k).take 1)[0]? = some (.bool a) := by rw [e]; rfl
  have := in_part e2
  simpa using this
theorem place_at {L : List Value} {k : Nat} {y : DataW H × List MemPlace} (h : DataW.trod enc Try.prog W base sp held n 24 ((L.drop k).take (Try.prog.cellsOf 24)) = some y) : ∀ j, j < 2 → ∃ a : Int, L[k + j]? = some (.int .i64 a) := by
  obtain ⟨xs, m, _, _, _, hlen, hg⟩ := DataW.trod_struct Try.underlying24 h
  have f := fun (i : Nat) (hi : i < 2) => (List.getElem?_eq_getElem (l := xs) (i := i) (by rw [hlen]; exact hi))
  intro j hj
  match j, hj with
  | 0, _ => obtain ⟨a, e⟩ := int_at ((hg 0 _ rfl).trans (f 0 (by omega))); exact ⟨a, in_part e⟩
  | 1, _ => obtain ⟨a, e⟩ := int_at ((hg 1 _ rfl).trans (f 1 (by omega))); exact ⟨a, in_part e⟩
theorem ballot_at {L : List Value} {k : Nat} {y : DataW H × List MemPlace} (h : DataW.trod enc Try.prog W base sp held n 26 ((L.drop k).take (Try.prog.cellsOf 26)) = some y) : ∀ j, j < 2 → ∃ a : Int, L[k + j]? = some (.int .i64 a) := by
  obtain ⟨xs, m, _, _, _, hlen, hg⟩ := DataW.trod_struct Try.underlying26 h
  have f := fun (i : Nat) (hi : i < 2) => (List.getElem?_eq_getElem (l := xs) (i := i) (by rw [hlen]; exact hi))
  intro j hj
  match j, hj with
  | 0, _ => obtain ⟨a, e⟩ := int_at ((hg 0 _ rfl).trans (f 0 (by omega))); exact ⟨a, in_part e⟩
  | 1, _ => obtain ⟨a, e⟩ := int_at ((hg 1 _ rfl).trans (f 1 (by omega))); exact ⟨a, in_part e⟩
theorem cmd_at {L : List Value} {k : Nat} {y : DataW H × List MemPlace} (h : DataW.trod enc Try.prog W base sp held n 28 ((L.drop k).take (Try.prog.cellsOf 28)) = some y) : ∀ j, j < 9 → ∃ a : Int, L[k + j]? = some (.int .i64 a) := by
  obtain ⟨xs, m, _, _, _, hlen, hg⟩ := DataW.trod_struct Try.underlying28 h
  have f := fun (i : Nat) (hi : i < 9) => (List.getElem?_eq_getElem (l := xs) (i := i) (by rw [hlen]; exact hi))
  intro j hj
  match j, hj with
  | 0, _ => obtain ⟨a, e⟩ := int_at ((hg 0 _ rfl).trans (f 0 (by omega))); exact ⟨a, in_part e⟩
  | 1, _ => obtain ⟨a, e⟩ := int_at ((hg 1 _ rfl).trans (f 1 (by omega))); exact ⟨a, in_part e⟩
  | 2, _ => obtain ⟨a, e⟩ := int_at ((hg 2 _ rfl).trans (f 2 (by omega))); exact ⟨a, in_part e⟩
  | 3, _ => obtain ⟨a, e⟩ := int_at ((hg 3 _ rfl).trans (f 3 (by omega))); exact ⟨a, in_part e⟩
  | 4, _ => obtain ⟨a, e⟩ := int_at ((hg 4 _ rfl).trans (f 4 (by omega))); exact ⟨a, in_part e⟩
  | 5, _ => obtain ⟨a, e⟩ := int_at ((hg 5 _ rfl).trans (f 5 (by omega))); exact ⟨a, in_part e⟩
  | 6, _ => obtain ⟨a, e⟩ := int_at ((hg 6 _ rfl).trans (f 6 (by omega))); exact ⟨a, in_part e⟩
  | 7, _ => obtain ⟨a, e⟩ := int_at ((hg 7 _ rfl).trans (f 7 (by omega))); exact ⟨a, in_part e⟩
  | 8, _ => obtain ⟨a, e⟩ := int_at ((hg 8 _ rfl).trans (f 8 (by omega))); exact ⟨a, in_part e⟩
theorem vec_at {L : List Value} {k : Nat} {y : DataW H × List MemPlace} (h : DataW.trod enc Try.prog W base sp held n 30 ((L.drop k).take (Try.prog.cellsOf 30)) = some y) : ∀ j, j < 7 → ∃ a : Int, L[k + j]? = some (.int .i64 a) := by
  obtain ⟨xs, m, _, _, _, hlen, hg⟩ := DataW.trod_array Try.underlying30 h
  intro j hj
  obtain ⟨a, e⟩ := int_at ((hg j hj).trans (List.getElem?_eq_getElem (by rw [hlen]; exact hj)))
  rw [Cm.cellsI, Nat.mul_one] at e
  exact ⟨a, in_part e⟩
theorem val_at {L : List Value} {k : Nat} {y : DataW H × List MemPlace} (h : DataW.trod enc Try.prog W base sp held n 32 ((L.drop k).take (Try.prog.cellsOf 32)) = some y) : ∀ j, j < 17 → ∃ a : Int, L[k + j]? = some (.int .i64 a) := by
  obtain ⟨xs, m, _, _, _, hlen, hg⟩ := DataW.trod_struct Try.underlying32 h
  have f0 := cmd_at ((hg 0 _ rfl).trans (List.getElem?_eq_getElem (by rw [hlen]; decide)))
  have f1 := int_at ((hg 1 _ rfl).trans (List.getElem?_eq_getElem (by rw [hlen]; decide)))
  have f2 := vec_at ((hg 2 _ rfl).trans (List.getElem?_eq_getElem (by rw [hlen]; decide)))
  intro j hj
  by_cases h1 : j < 9
  · obtain ⟨a, e⟩ := f0 j h1
    have e := in_part e
    exact ⟨a, by rw [← e]; congr 1; show k + j = k + (0 + j); omega⟩
  · by_cases h2 : j = 9
    · obtain ⟨a, e⟩ := f1
      have e := in_part e
      subst h2
      exact ⟨a, e⟩
    · obtain ⟨a, e⟩ := f2 (j - 10) (by omega)
      have e := in_part e
      exact ⟨a, by rw [← e]; congr 1; show k + j = k + (10 + (j - 10)); omega⟩
end
def booOf : Option Value → Bool
  | some (.bool b) => b
  | _ => false
def numP : Option Value → Int
  | some (.int _ x) => x
  | _ => 0
/-- The cells of an instance that was read. -/
theorem ins_cells {H : Type} {enc : TypeId × Value → H} {W : World} {base fuel : Nat} {sp : Nat → Bool} {held : Bool} {cs : Array Value} {x : DataW H × List MemPlace} (hsz : cs.size = 25)
    (hf : DataW.trod enc Try.prog W base sp held fuel 37 cs.toList = some x) : ∃ i : Ins, cs = ci i := by
  obtain ⟨xs, n, _, _, hl, hlen, hg⟩ := DataW.trod_struct Try.underlying37 hf
  have f0 := place_at ((hg 0 _ rfl).trans (List.getElem?_eq_getElem (by rw [hlen]; decide)))
  have f1 := ballot_at ((hg 1 _ rfl).trans (List.getElem?_eq_getElem (by rw [hlen]; decide)))
  have f2 := ballot_at ((hg 2 _ rfl).trans (List.getElem?_eq_getElem (by rw [hlen]; decide)))
  have f3 := int_at ((hg 3 _ rfl).trans (List.getElem?_eq_getElem (by rw [hlen]; decide)))
  have f4 := val_at ((hg 4 _ rfl).trans (List.getElem?_eq_getElem (by rw [hlen]; decide)))
  have f5 := bool_at ((hg 5 _ rfl).trans (List.getElem?_eq_getElem (by rw [hlen]; decide)))
  have all : ∀ j, j < 24 → ∃ a : Int, cs[j]? = some (.int .i64 a) := by
    intro j hj
    have hc : cs[j]? = cs.toList[j]? := by simp
    rw [hc]
    by_cases h1 : j < 2
    · obtain ⟨a, e⟩ := f0 j h1
      exact ⟨a, by rw [← e]; congr 1; show j = 0 + j; omega⟩
    · by_cases h2 : j < 4
      · obtain ⟨a, e⟩ := f1 (j - 2) (by omega)
        exact ⟨a, by rw [← e]; congr 1; show j = 2 + (j - 2); omega⟩
      · by_cases h3 : j < 6
        · obtain ⟨a, e⟩ := f2 (j - 4) (by omega)
          exact ⟨a, by rw [← e]; congr 1; show j = 4 + (j - 4); omega⟩
        · by_cases h4 : j = 6
          · obtain ⟨a, e⟩ := f3
            subst h4
            exact ⟨a, e⟩
          · obtain ⟨a, e⟩ := f4 (j - 7) (by omega)
            exact ⟨a, by rw [← e]; congr 1; show j = 7 + (j - 7); omega⟩
  obtain ⟨b, hb⟩ : ∃ b : Bool, cs[24]? = some (.bool b) := by
    obtain ⟨a, e⟩ := f5
    exact ⟨a, by rw [show cs[24]? = cs.toList[24]? by simp]; exact e⟩
  refine ⟨⟨numP cs[0]?, numP cs[1]?, numP cs[2]?, numP cs[3]?, numP cs[4]?, numP cs[5]?, numP cs[6]?, fun k => numP cs[7 + k]?, numP cs[16]?, fun k => numP cs[17 + k]?, b⟩, ?_⟩
  apply Array.ext_getElem?
  intro j
  by_cases hj : j < 24
  · obtain ⟨a, e⟩ := all j hj
    have key : ∀ k, k < 24 → (ci ⟨numP cs[0]?, numP cs[1]?, numP cs[2]?, numP cs[3]?, numP cs[4]?, numP cs[5]?, numP cs[6]?, fun k => numP cs[7 + k]?, numP cs[16]?, fun k => numP cs[17 + k]?, b⟩)[k]? = some (.int .i64 (numP cs[k]?)) := by
      intro k hk
      match k, hk with
      | 0, _ => rfl | 1, _ => rfl | 2, _ => rfl | 3, _ => rfl | 4, _ => rfl | 5, _ => rfl | 6, _ => rfl | 7, _ => rfl | 8, _ => rfl | 9, _ => rfl | 10, _ => rfl | 11, _ => rfl
      | 12, _ => rfl | 13, _ => rfl | 14, _ => rfl | 15, _ => rfl | 16, _ => rfl | 17, _ => rfl | 18, _ => rfl | 19, _ => rfl | 20, _ => rfl | 21, _ => rfl | 22, _ => rfl | 23, _ => rfl
      | (_ + 24), h => exact absurd h (by omega)
    rw [key j hj, e]; rfl
  · by_cases hj2 : j = 24
    · subst hj2; rw [hb]; rfl
    · rw [Array.getElem?_eq_none (by omega), Array.getElem?_eq_none (by rw [ci_size]; omega)]
theorem open_ins {H : Type} {enc : TypeId × Value → H} {W : World} {r : Reach} {base b0 : Nat} {sp : Nat → Bool} {held : Bool} {v : Value} {d : DataW H} {p : List MemPlace}
    (hv : Value.okWide Try.prog W r b0 37 v) (h : DataW.Trod enc Try.prog W base sp held 37 v d p) : ∃ i : Ins, v = .agg (ci i) := by
  obtain ⟨cs, rfl, hsz⟩ := okWide_struct fieldsI hv
  rw [show Try.prog.cellsOf 37 = 25 by kernel_rfl] at hsz
  obtain ⟨fuel, hf⟩ := h
  obtain ⟨i, rfl⟩ := ins_cells hsz hf
  exact ⟨i, rfl⟩
end Go.Proofs.Ytmaecknjamnnpaa.Rc
