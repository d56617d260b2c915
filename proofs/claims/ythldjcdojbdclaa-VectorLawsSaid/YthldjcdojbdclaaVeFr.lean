/- A vector that came in is seven numbers. -/
import Derived.Test.YthldjcdojbdclaaVeRow
import Derived.ChangeSame
import Derived.OpenShut
namespace Go.Proofs.Ythldjcdojbdclaa.Ve
open Go.RowKit
set_option linter.unusedVariables false
open Go.ChangeShapes Go.WideShapes Go.ChangeAt
theorem mapM_all {α β : Type} (g : α → Option β) : ∀ (L : List α) (ys : List β), L.mapM g = some ys → ∀ i ∈ L, ∃ y, g i = some y
  | [], _, _, i, hi => by cases hi
  | j :: L, ys, h, i, hi => by
    rw [List.mapM_cons] at h
    simp only [bind, Option.bind_eq_some_iff, pure, Option.some.injEq] at h
    obtain ⟨y, hy, zs, hz, _⟩ := h
    rcases List.mem_cons.1 hi with rfl | hi
    · exact ⟨y, hy⟩
    · exact mapM_all g L zs hz i hi
theorem cellsV : Try.prog.cellsOf 23 = 7 := by kernel_rfl
theorem cellsI : Try.prog.cellsOf 3 = 1 := by kernel_rfl
def numOf : Option Value → Int
  | some (.int _ x) => x
  | _ => 0
theorem open_vec {H : Type} {enc : TypeId × Value → H} {W : World} {r : Reach} {base b0 : Nat} {sp : Nat → Bool} {held : Bool} {v : Value} {d : DataW H} {p : List MemPlace}
    (hv : Value.okWide Try.prog W r b0 23 v) (h : DataW.Trod enc Try.prog W base sp held 23 v d p) : ∃ f : Nat → Int, v = .agg (fc f) := by
  obtain ⟨cs, rfl, hsz, _⟩ : ∃ cs, v = .agg cs ∧ cs.size = Try.prog.cellsOf 23 ∧ Row.okWide Try.prog W r b0 23 cs := by
    simpa [Value.okWide, Try.underlying23] using hv
  rw [cellsV] at hsz
  obtain ⟨fuel, hf⟩ := h
  cases fuel with
  | zero => simp [DataW.trod] at hf
  | succ m =>
    rw [DataW.trod_step] at hf
    unfold DataW.trodStep at hf
    simp only [Try.underlying23, Value.cells] at hf
    rw [if_pos (by rw [cellsV]; simpa using hsz)] at hf
    simp only [Option.map_eq_some_iff] at hf
    obtain ⟨ys, hy, _⟩ := hf
    refine ⟨fun i => numOf cs[i]?, ?_⟩
    congr 1
    apply Array.ext_getElem?
    intro i
    by_cases hi : i < 7
    · obtain ⟨y, hyi⟩ := mapM_all _ _ _ hy i (by simpa using hi)
      obtain ⟨a, e, _, _⟩ := DataW.trod_int Try.underlying3 hyi
      rw [cellsI, Nat.mul_one] at e
      have hc : cs[i]? = some (.int .i64 a) := by
        have e2 : ((cs.toList.drop i).take 1)[0]? = some (.int .i64 a) := by rw [e]; rfl
        simpa using e2
      rw [fc_at _ i hi, hc]
      simp [numOf]
    · rw [Array.getElem?_eq_none (by omega), Array.getElem?_eq_none (by rw [fc_size]; omega)]
end Go.Proofs.Ythldjcdojbdclaa.Ve
