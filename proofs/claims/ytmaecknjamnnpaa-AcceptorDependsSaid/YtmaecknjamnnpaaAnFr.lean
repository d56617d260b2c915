/- Layer 19: a message, and messages as a list, that came in. -/
import Derived.Test.YtmaecknjamnnpaaAnJ
import Derived.Test.YtmaecknjamnnpaaRcOp
import Derived.Test.YtmaecknjamnnpaaIsOf
import Derived.Test.YtmaecknjamnnpaaSub
import Derived.Deep.Slices
import Derived.Deep.Fields
import Derived.ChangeSame
import Derived.OpenShut
namespace Go.Proofs.Ytmaecknjamnnpaa.An
open Go.RowKit
set_option linter.unusedVariables false
set_option maxRecDepth 20000
open Go.ChangeShapes Go.WideShapes Go.ChangeAt Go.Deep
open Go.Proofs.Ytmaecknjamnnpaa.Rw
open Go.Proofs.Ytmaecknjamnnpaa.Da
open Go.Proofs.Ytmaecknjamnnpaa.Rc (numP int_at bool_at place_at ballot_at val_at)
instance : Inhabited Msg := ⟨zeroM⟩
theorem msg_cells {H : Type} {enc : TypeId × Value → H} {W : World} {base fuel : Nat} {sp : Nat → Bool} {held : Bool} {cs : Array Value} {x : DataW H × List MemPlace} (hsz : cs.size = 28)
    (hf : DataW.trod enc Try.prog W base sp held fuel 34 cs.toList = some x) : ∃ m : Msg, cs = cg m := by
  obtain ⟨xs, n, _, _, hl, hlen, hg⟩ := DataW.trod_struct Try.underlying34 hf
  have f0 := int_at ((hg 0 _ rfl).trans (List.getElem?_eq_getElem (by rw [hlen]; decide)))
  have f1 := int_at ((hg 1 _ rfl).trans (List.getElem?_eq_getElem (by rw [hlen]; decide)))
  have f2 := int_at ((hg 2 _ rfl).trans (List.getElem?_eq_getElem (by rw [hlen]; decide)))
  have f3 := place_at ((hg 3 _ rfl).trans (List.getElem?_eq_getElem (by rw [hlen]; decide)))
  have f4 := ballot_at ((hg 4 _ rfl).trans (List.getElem?_eq_getElem (by rw [hlen]; decide)))
  have f5 := val_at ((hg 5 _ rfl).trans (List.getElem?_eq_getElem (by rw [hlen]; decide)))
  have f6 := int_at ((hg 6 _ rfl).trans (List.getElem?_eq_getElem (by rw [hlen]; decide)))
  have f7 := ballot_at ((hg 7 _ rfl).trans (List.getElem?_eq_getElem (by rw [hlen]; decide)))
  have f8 := bool_at ((hg 8 _ rfl).trans (List.getElem?_eq_getElem (by rw [hlen]; decide)))
  have all : ∀ j, j < 27 → ∃ a : Int, cs[j]? = some (.int .i64 a) := by
    intro j hj
    have hc : cs[j]? = cs.toList[j]? := by simp
    rw [hc]
    by_cases h0 : j = 0
    · obtain ⟨a, e⟩ := f0; subst h0; exact ⟨a, e⟩
    by_cases h1 : j = 1
    · obtain ⟨a, e⟩ := f1; subst h1; exact ⟨a, e⟩
    by_cases h2 : j = 2
    · obtain ⟨a, e⟩ := f2; subst h2; exact ⟨a, e⟩
    by_cases h3 : j < 5
    · obtain ⟨a, e⟩ := f3 (j - 3) (by omega)
      exact ⟨a, by rw [← e]; congr 1; show j = 3 + (j - 3); omega⟩
    by_cases h4 : j < 7
    · obtain ⟨a, e⟩ := f4 (j - 5) (by omega)
      exact ⟨a, by rw [← e]; congr 1; show j = 5 + (j - 5); omega⟩
    by_cases h5 : j < 24
    · obtain ⟨a, e⟩ := f5 (j - 7) (by omega)
      exact ⟨a, by rw [← e]; congr 1; show j = 7 + (j - 7); omega⟩
    by_cases h6 : j = 24
    · obtain ⟨a, e⟩ := f6; subst h6; exact ⟨a, e⟩
    · obtain ⟨a, e⟩ := f7 (j - 25) (by omega)
      exact ⟨a, by rw [← e]; congr 1; show j = 25 + (j - 25); omega⟩
  obtain ⟨b, hb⟩ : ∃ b : Bool, cs[27]? = some (.bool b) := by
    obtain ⟨a, e⟩ := f8
    exact ⟨a, by rw [show cs[27]? = cs.toList[27]? by simp]; exact e⟩
  refine ⟨⟨numP cs[0]?, numP cs[1]?, numP cs[2]?, numP cs[3]?, numP cs[4]?, numP cs[5]?, numP cs[6]?, fun k => numP cs[7 + k]?, numP cs[16]?, fun k => numP cs[17 + k]?, numP cs[24]?, numP cs[25]?, numP cs[26]?, b⟩, ?_⟩
  apply Array.ext_getElem?
  intro j
  by_cases hj : j < 27
  · obtain ⟨a, e⟩ := all j hj
    have key : ∀ k, k < 27 → (cg ⟨numP cs[0]?, numP cs[1]?, numP cs[2]?, numP cs[3]?, numP cs[4]?, numP cs[5]?, numP cs[6]?, fun k => numP cs[7 + k]?, numP cs[16]?, fun k => numP cs[17 + k]?, numP cs[24]?, numP cs[25]?, numP cs[26]?, b⟩)[k]? = some (.int .i64 (numP cs[k]?)) := by
      intro k hk
      match k, hk with
      | 0, _ => rfl | 1, _ => rfl | 2, _ => rfl | 3, _ => rfl | 4, _ => rfl | 5, _ => rfl | 6, _ => rfl | 7, _ => rfl | 8, _ => rfl | 9, _ => rfl | 10, _ => rfl | 11, _ => rfl
      | 12, _ => rfl | 13, _ => rfl | 14, _ => rfl | 15, _ => rfl | 16, _ => rfl | 17, _ => rfl | 18, _ => rfl | 19, _ => rfl | 20, _ => rfl | 21, _ => rfl | 22, _ => rfl | 23, _ => rfl
      | 24, _ => rfl | 25, _ => rfl | 26, _ => rfl
      | (_ + 27), h => exact absurd h (by omega)
    rw [key j hj, e]; rfl
  · by_cases hj2 : j = 27
    · subst hj2; rw [hb]; rfl
    · rw [Array.getElem?_eq_none (by omega), Array.getElem?_eq_none (by rw [cg_size]; omega)]
theorem open_msg {H : Type} {enc : TypeId × Value → H} {W : World} {r : Reach} {base b0 : Nat} {sp : Nat → Bool} {held : Bool} {v : Value} {d : DataW H} {p : List MemPlace}
    (hv : Value.okWide Try.prog W r b0 34 v) (h : DataW.Trod enc Try.prog W base sp held 34 v d p) : ∃ m : Msg, v = .agg (cg m) := by
  obtain ⟨cs, rfl, hsz⟩ := okWide_struct fieldsG hv
  rw [show Try.prog.cellsOf 34 = 28 by kernel_rfl] at hsz
  obtain ⟨fuel, hf⟩ := h
  obtain ⟨i, rfl⟩ := msg_cells hsz hf
  exact ⟨i, rfl⟩
theorem cellsG28 : Try.prog.cellsOf 34 = 28 := by kernel_rfl
def wfM (l : List Msg) : Prop := l.length ≤ maxLen
theorem open_tg {H : Type} {en : TypeId × Value → H} {w : World} {base fuel : Nat} {sp : Nat → Bool} {held : Bool} {a : Option Addr} {n c : Nat} {x : DataW H × List MemPlace}
    (h : DataW.trod en Try.prog w base sp held fuel 44 (Value.slice a n c).cells.toList = some x) : ∃ l, TG w.heap.size l (.slice a n c) w ∧ wfM l := by
  rcases open_slice Try.underlying44 h with ⟨hcs, _⟩ | ⟨ad, len, cap, m, n', D, Pl, hcs, _, hl, hcap, hm, _, hi⟩
  · simp [Value.cells] at hcs
    obtain ⟨rfl, rfl, rfl⟩ := hcs
    exact ⟨[], Is.nil _ _ _ _, Nat.zero_le _⟩
  · simp [Value.cells] at hcs
    obtain ⟨rfl, rfl, rfl⟩ := hcs
    suffices h : ∃ l, TG w.heap.size l (.slice (some ad) n c) w ∧ l.length = n ∧ ∀ v ∈ l, True by
      obtain ⟨l, h1, h2, h3⟩ := h
      exact ⟨l, h1, by unfold wfM; omega⟩
    refine is_of eG 34 (by decide) w ad n c (fun _ => True) fun i hlt => ?_
    obtain ⟨cs, hc, ht⟩ := hi i (by rw [hm]; split <;> omega)
    rw [cellsG28] at hc
    obtain ⟨_, hcl, hat⟩ := World.cells?_some hc
    obtain ⟨y, hy⟩ := msg_cells (cs := cs.toArray) (by simpa using hcl) ht
    refine ⟨y, _, True.intro, rfl, fun j u hu => ?_⟩
    show w.cell? ((ad.add (i * 28)).add j) = some u
    have hcs2 : cs = cG y := by
      have := congrArg Array.toList hy
      simpa [cG] using this
    have hj : j < 28 := by
      have hu' : (cG y)[j]? = some u := hu
      rcases Nat.lt_or_ge j 28 with h | h
      · exact h
      · rw [List.getElem?_eq_none (by show (cG y).length ≤ j; exact h)] at hu'; cases hu'
    rw [hat j hj, hcs2]
    exact hu
end Go.Proofs.Ytmaecknjamnnpaa.An
