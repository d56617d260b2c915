/- Instances that came in, as a list. -/
import Derived.Test.YtmaecknjamnnpaaStAa
import Derived.Test.YtmaecknjamnnpaaRcOp
import Derived.Test.YtmaecknjamnnpaaIsOf
import Derived.Test.YtmaecknjamnnpaaSub
import Derived.Deep.Slices
import Derived.Deep.Fields
import Derived.ChangeSame
import Derived.OpenShut
namespace Go.Proofs.Ytmaecknjamnnpaa.In
open Go.RowKit
set_option linter.unusedVariables false
open Go.ChangeShapes Go.WideShapes Go.Deep
open Go.Proofs.Ytmaecknjamnnpaa.Rw
open Go.Proofs.Ytmaecknjamnnpaa.Da
open Go.Proofs.Ytmaecknjamnnpaa.Rc (Ins ci)
open Go.Proofs.Ytmaecknjamnnpaa.St
instance : Inhabited Ins := ⟨Rc.zeroI⟩
theorem cellsI25 : Try.prog.cellsOf 37 = 25 := by kernel_rfl
def wfL (l : List Ins) : Prop := l.length ≤ maxLen
theorem open_ti {H : Type} {en : TypeId × Value → H} {w : World} {base fuel : Nat} {sp : Nat → Bool} {held : Bool} {a : Option Addr} {n c : Nat} {x : DataW H × List MemPlace}
    (h : DataW.trod en Try.prog w base sp held fuel 22 (Value.slice a n c).cells.toList = some x) : ∃ l, TI w.heap.size l (.slice a n c) w ∧ wfL l ∧ capOk (.slice a n c) := by
  rcases open_slice Try.underlying22 h with ⟨hcs, _⟩ | ⟨ad, len, cap, m, n', D, Pl, hcs, _, hl, hcap, hm, _, hi⟩
  · simp [Value.cells] at hcs
    obtain ⟨rfl, rfl, rfl⟩ := hcs
    exact ⟨[], Is.nil _ _ _ _, Nat.zero_le _, Nat.le_refl 0⟩
  · simp [Value.cells] at hcs
    obtain ⟨rfl, rfl, rfl⟩ := hcs
    suffices h : ∃ l, TI w.heap.size l (.slice (some ad) n c) w ∧ l.length = n ∧ ∀ v ∈ l, True by
      obtain ⟨l, h1, h2, h3⟩ := h
      exact ⟨l, h1, by unfold wfL; omega, hl⟩
    refine is_of eI 37 (by decide) w ad n c (fun _ => True) fun i hlt => ?_
    obtain ⟨cs, hc, ht⟩ := hi i (by rw [hm]; split <;> omega)
    rw [cellsI25] at hc
    obtain ⟨_, hcl, hat⟩ := World.cells?_some hc
    obtain ⟨y, hy⟩ := Rc.ins_cells (cs := cs.toArray) (by simpa using hcl) ht
    refine ⟨y, _, True.intro, rfl, fun j u hu => ?_⟩
    show w.cell? ((ad.add (i * 25)).add j) = some u
    have hcs2 : cs = cI y := by
      have := congrArg Array.toList hy
      simpa [cI] using this
    have hj : j < 25 := by
      have hu' : (cI y)[j]? = some u := hu
      rcases Nat.lt_or_ge j 25 with h | h
      · exact h
      · rw [List.getElem?_eq_none (by show (cI y).length ≤ j; exact h)] at hu'; cases hu'
    rw [hat j hj, hcs2]
    exact hu
end Go.Proofs.Ytmaecknjamnnpaa.In
