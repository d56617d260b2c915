/- Calls that came in (layer 9's statements), as a list; one call by value. -/
import Derived.Test.YtfnmmknbjfmagaaBlE
import Derived.Test.YtfnmmknbjfmagaaLeFr
namespace Go.Proofs.Ytfnmmknbjfmagaa.Bk
open Go.RowKit
set_option linter.unusedVariables false
open Go.ChangeShapes Go.WideShapes Go.Deep
open Go.Proofs.Ytfnmmknbjfmagaa.Rw
open Go.Proofs.Ytfnmmknbjfmagaa.Da
open Go.Proofs.Ytfnmmknbjfmagaa.Le
def wfP (o : Op5) : Prop := wfI o.1 ∧ wfI o.2.1 ∧ wfI o.2.2.1 ∧ wfI o.2.2.2.1 ∧ wfI o.2.2.2.2
def wfPs (l : List Op5) : Prop := l.length ≤ maxLen ∧ ∀ o ∈ l, wfP o
theorem cellsP5 : Try.prog.cellsOf 29 = 5 := by kernel_rfl
theorem open_ops {H : Type} {en : TypeId × Value → H} {w : World} {base fuel : Nat} {sp : Nat → Bool} {held : Bool} {a : Option Addr} {n c : Nat} {x : DataW H × List MemPlace}
    (h : DataW.trod en Try.prog w base sp held fuel 22 (Value.slice a n c).cells.toList = some x) : ∃ l, PL (Bs.of w.heap.size) l (.slice a n c) w ∧ wfPs l := by
  rcases open_slice Try.underlying22 h with ⟨hcs, _⟩ | ⟨ad, len, cap, m, n', D, Pl, hcs, _, hl, hcap, hm, _, hi⟩
  · simp [Value.cells] at hcs
    obtain ⟨rfl, rfl, rfl⟩ := hcs
    exact ⟨[], Is.nil _ _ _ _, Nat.zero_le _, by simp⟩
  · simp [Value.cells] at hcs
    obtain ⟨rfl, rfl, rfl⟩ := hcs
    suffices h : ∃ l, PL (Bs.of w.heap.size) l (.slice (some ad) n c) w ∧ l.length = n ∧ ∀ o ∈ l, wfP o by
      obtain ⟨l, h1, h2, h3⟩ := h
      exact ⟨l, h1, by omega, h3⟩
    refine is_of eP 29 (by decide) w ad n c wfP fun i hlt => ?_
    obtain ⟨cs, hc, ht⟩ := hi i (by rw [hm]; split <;> omega)
    rw [cellsP5] at hc
    obtain ⟨_, hcl, hat⟩ := World.cells?_some hc
    obtain ⟨ys, n1, _, _, _, hyl, hf⟩ := DataW.trod_struct Try.underlying29 ht
    have g1 := fld (o := 0) (t := 3) rfl rfl cellsI ((hf 0 _ rfl).trans (List.getElem?_eq_getElem (by rw [hyl]; decide)))
    have g2 := fld (o := 1) (t := 3) rfl rfl cellsI ((hf 1 _ rfl).trans (List.getElem?_eq_getElem (by rw [hyl]; decide)))
    have g3 := fld (o := 2) (t := 3) rfl rfl cellsI ((hf 2 _ rfl).trans (List.getElem?_eq_getElem (by rw [hyl]; decide)))
    have g4 := fld (o := 3) (t := 3) rfl rfl cellsI ((hf 3 _ rfl).trans (List.getElem?_eq_getElem (by rw [hyl]; decide)))
    have g5 := fld (o := 4) (t := 3) rfl rfl cellsI ((hf 4 _ rfl).trans (List.getElem?_eq_getElem (by rw [hyl]; decide)))
    obtain ⟨x1, e1, w1⟩ := one_of 0 g1
    obtain ⟨x2, e2, w2⟩ := one_of 1 g2
    obtain ⟨x3, e3, w3⟩ := one_of 2 g3
    obtain ⟨x4, e4, w4⟩ := one_of 3 g4
    obtain ⟨x5, e5, w5⟩ := one_of 4 g5
    refine ⟨(x1, x2, x3, x4, x5), _, ⟨w1, w2, w3, w4, w5⟩, rfl, fun j u hu => ?_⟩
    show w.cell? ((ad.add (i * 5)).add j) = some u
    match j, hu with
    | 0, hu => obtain rfl := Option.some.inj hu; rw [hat 0 (by omega), e1]
    | 1, hu => obtain rfl := Option.some.inj hu; rw [hat 1 (by omega), e2]
    | 2, hu => obtain rfl := Option.some.inj hu; rw [hat 2 (by omega), e3]
    | 3, hu => obtain rfl := Option.some.inj hu; rw [hat 3 (by omega), e4]
    | 4, hu => obtain rfl := Option.some.inj hu; rw [hat 4 (by omega), e5]
    | j + 5, hu => cases hu
set_option maxRecDepth 8000 in
/-- A call that came in by value. -/
theorem open_op {H : Type} {enc : TypeId × Value → H} {W : World} {r : Reach} {base b0 : Nat} {sp : Nat → Bool} {held : Bool} {v : Value} {d : DataW H} {p : List MemPlace}
    (hv : Value.okWide Try.prog W r b0 29 v) (h : DataW.Trod enc Try.prog W base sp held 29 v d p) : ∃ a b c x y : Int, v = .agg #[.int .i64 a, .int .i64 b, .int .i64 c, .int .i64 x, .int .i64 y] ∧ wfP (a, b, c, x, y) := by
  obtain ⟨cs, rfl, hsz⟩ := okWide_struct Try.underlying29 hv
  obtain ⟨fuel, hf⟩ := h
  obtain ⟨ys, n1, _, _, _, hyl, hg⟩ := DataW.trod_struct Try.underlying29 hf
  rw [cellsP5] at hsz
  have g1 := fld (o := 0) (t := 3) rfl rfl cellsI ((hg 0 _ rfl).trans (List.getElem?_eq_getElem (by rw [hyl]; decide)))
  have g2 := fld (o := 1) (t := 3) rfl rfl cellsI ((hg 1 _ rfl).trans (List.getElem?_eq_getElem (by rw [hyl]; decide)))
  have g3 := fld (o := 2) (t := 3) rfl rfl cellsI ((hg 2 _ rfl).trans (List.getElem?_eq_getElem (by rw [hyl]; decide)))
  have g4 := fld (o := 3) (t := 3) rfl rfl cellsI ((hg 3 _ rfl).trans (List.getElem?_eq_getElem (by rw [hyl]; decide)))
  have g5 := fld (o := 4) (t := 3) rfl rfl cellsI ((hg 4 _ rfl).trans (List.getElem?_eq_getElem (by rw [hyl]; decide)))
  obtain ⟨x1, e1, w1⟩ := one_of 0 g1
  obtain ⟨x2, e2, w2⟩ := one_of 1 g2
  obtain ⟨x3, e3, w3⟩ := one_of 2 g3
  obtain ⟨x4, e4, w4⟩ := one_of 3 g4
  obtain ⟨x5, e5, w5⟩ := one_of 4 g5
  refine ⟨x1, x2, x3, x4, x5, ?_, w1, w2, w3, w4, w5⟩
  congr 1
  apply Array.ext_getElem?
  intro i
  have hl : (Value.agg cs).cells.toList = cs.toList := rfl
  rw [hl] at e1 e2 e3 e4 e5
  match i with
  | 0 => simpa using e1
  | 1 => simpa using e2
  | 2 => simpa using e3
  | 3 => simpa using e4
  | 4 => simpa using e5
  | i + 5 => rw [Array.getElem?_eq_none (by omega), Array.getElem?_eq_none (by simp)]
end Go.Proofs.Ytfnmmknbjfmagaa.Bk
