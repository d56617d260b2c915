/- The document's own: trades. -/
import Derived.Test.YthecinmekoaphaaGreatQaAN
import Derived.Test.YthecinmekoaphaaGreatQaAL
set_option linter.unusedVariables false
namespace Go.Proofs.YthecinmekoaphaaGreat.Bk
open Go.RowKit
open Go.Proofs.YthecinmekoaphaaGreat.Rw
open Go.Proofs.YthecinmekoaphaaGreat.Da
open Go.Proofs.YthecinmekoaphaaGreat.Le
def Cat (gs : List Fl) (r : Option (List Fl × Int)) : Option (List Fl × Int) := r.map fun x => (gs ++ x.1, x.2)
theorem cat_nil (r : Option (List Fl × Int)) : Cat [] r = r := by cases r <;> rfl
theorem cat_stop {ow s p q : Int} {o : Od} {r : List Od} {gs : List Fl} (h : q = 0 ∨ meets s p (opr o) = false) : Cat gs (tr ow s p (o :: r) q) = some (gs, q) := by
  rw [tr, if_pos h]; simp [Cat]
theorem cat_self {ow s p q : Int} {o : Od} {r : List Od} {gs : List Fl} (h : ¬ (q = 0 ∨ meets s p (opr o) = false)) (k : oow o = ow) : Cat gs (tr ow s p (o :: r) q) = none := by
  rw [tr, if_neg h, if_pos k]; rfl
theorem cat_go {ow s p q : Int} {o : Od} {r : List Od} {gs : List Fl} (h : ¬ (q = 0 ∨ meets s p (opr o) = false)) (k : ¬ oow o = ow) : Cat gs (tr ow s p (o :: r) q) = Cat (gs ++ [mkF o (min q (olf o))]) (tr ow s p r (q - min q (olf o))) := by
  rw [tr, if_neg h, if_neg k]
  cases tr ow s p r (q - min q (olf o)) with
  | none => rfl
  | some x => simp [Cat]
theorem best_some {s : Int} {l : List Lv} {x : Od} (h : RightL s l) (hx : (flat l).head? = some x) : bestP l = opr x ∧ 1 ≤ opr x ∧ x ∈ flat l := by
  have hm : x ∈ flat l := List.mem_of_head? hx
  have := mem_may h hm
  rw [omay_iff] at this
  refine ⟨by unfold bestP; rw [hx], by unfold opr; omega, hm⟩
theorem best_none {l : List Lv} (hx : (flat l).head? = none) : bestP l = 0 ∧ flat l = [] := ⟨by unfold bestP; rw [hx], List.head?_eq_none_iff.1 hx⟩
theorem rightB_make {b : Bk} (n1 : 1 ≤ b.2.2) (n2 : b.2.2 ≤ 1073741824) (h1 : RightL 1 b.1) (h2 : RightL 2 b.2.1) (hc : cntB b ≤ 40) (ha : ∀ o ∈ flat b.1, fnd (flat b.2.1) o.1 = none ∧ o.1 < b.2.2) (hs : ∀ o ∈ flat b.2.1, o.1 < b.2.2) :
    rightB b = (decide (bestP b.1 = 0) || (decide (bestP b.2.1 = 0) || decide (bestP b.1 < bestP b.2.1))) := by
  have key : ∀ _ : (∀ o ∈ flat b.1, ∀ x ∈ flat b.2.1, opr o < opr x), rightB b = true := fun hx => rightB_iff.2 ⟨n1, n2, h1, h2, hc, fun o ho x hx e => fnd_none.1 (ha o ho).1 x hx e.symm, fun o ho => (ha o ho).2, hs, hx⟩
  cases e1 : (flat b.1).head? with
  | none =>
    obtain ⟨p1, p2⟩ := best_none e1
    rw [key (by rw [p2]; simp), p1]; rfl
  | some x =>
    obtain ⟨p1, p2, p3⟩ := best_some h1 e1
    cases e2 : (flat b.2.1).head? with
    | none =>
      obtain ⟨q1, q2⟩ := best_none e2
      rw [key (by rw [q2]; simp), q1]; simp
    | some y =>
      obtain ⟨q1, q2, q3⟩ := best_some h2 e2
      rw [p1, q1]
      by_cases hlt : opr x < opr y
      · rw [key (fun o ho z hz => by
          have a1 := head_best h1 e1 o ho
          have a2 := head_best h2 e2 z hz
          simp only [Le.ahead, if_true, decide_eq_true_eq] at a1 a2
          have : ¬ (2 : Int) = 1 := by decide
          rw [if_neg this] at a2
          simp only [decide_eq_true_eq] at a2
          omega)]
        simp [hlt]
      · rw [rightB_no (fun h => hlt (h.cross x p3 y q3))]
        have e1 : ¬ opr x = 0 := by omega
        have e2 : ¬ opr y = 0 := by omega
        simp [e1, e2, hlt]
end Go.Proofs.YthecinmekoaphaaGreat.Bk
