/- Layer 3: amounts, their sums, differences, products: plain functions. -/
namespace Go.Proofs.Yteandjnbcolphaa.Mo
def may (a : Int) : Bool := decide (0 ≤ a ∧ a ≤ 1125899906842624)
theorem may_of {a : Int} (h : 0 ≤ a ∧ a ≤ 1125899906842624) : may a = true := decide_eq_true h
theorem may_no {a : Int} (h : ¬ (0 ≤ a ∧ a ≤ 1125899906842624)) : may a = false := decide_eq_false h
theorem may_iff {a : Int} : may a = true ↔ 0 ≤ a ∧ a ≤ 1125899906842624 := by simp [may]
/-- From left to right, till the first error. -/
def tot : List Int → Int → Int × Int
  | [], s => (s, 0)
  | n :: r, s => if may n = true then (if 1125899906842624 - s < n then (0, 6) else tot r (s + n)) else (0, 1)
def totS (l : List Int) : Int := (tot l 0).1
def totE (l : List Int) : Int := (tot l 0).2
def add2 (a b : Int) : Int × Int := if may a = true ∧ may b = true then (if 1125899906842624 - a < b then (0, 6) else (a + b, 0)) else (0, 1)
theorem tot2 (a b : Int) : tot [a, b] 0 = add2 a b := by
  unfold add2
  by_cases ha : may a = true
  · have := may_iff.1 ha
    by_cases hb : may b = true
    · simp only [tot, ha, hb, if_true, and_self, Int.sub_zero, Int.zero_add]
      rw [if_neg (by omega)]
    · simp only [tot, ha, hb, if_true, Int.sub_zero, Int.zero_add]
      rw [if_neg (by omega)]; rfl
  · simp only [tot, ha]; rfl
def addS (a b : Int) : Int := (add2 a b).1
def addE (a b : Int) : Int := (add2 a b).2
def sub2 (a b : Int) : Int × Int := if may a = true ∧ may b = true then (if a < b then (0, 7) else (a - b, 0)) else (0, 1)
def subS (a b : Int) : Int := (sub2 a b).1
def subE (a b : Int) : Int := (sub2 a b).2
def mul2 (a b : Int) : Int × Int := if may a = true ∧ may b = true then (if a ≠ 0 ∧ 1125899906842624 / a < b then (0, 6) else (a * b, 0)) else (0, 1)
def mulS (a b : Int) : Int := (mul2 a b).1
def mulE (a b : Int) : Int := (mul2 a b).2
end Go.Proofs.Yteandjnbcolphaa.Mo
