/- The document's own of layer 10: Right, Owed. -/
import Derived.Test.YthecinmekoaphaaGreatQaAQ
import Derived.Test.YthecinmekoaphaaGreatQaAR
import Derived.RegionTactic
set_option linter.unusedVariables false
namespace Go.Proofs.YthecinmekoaphaaGreat.La
open Go.RowKit
open Go.Proofs.YthecinmekoaphaaGreat.Rw
open Go.Proofs.YthecinmekoaphaaGreat.Da
open Go.Proofs.YthecinmekoaphaaGreat.Le
open Go.Proofs.YthecinmekoaphaaGreat.Bk
open Go.Proofs.YthecinmekoaphaaGreat.Ac (Hd Pu HL pmay pmay_iff tot total giveE giveL takeE takeL)
def okOf (b q : Int) (h : Hd) : Bool := h.2.1 == b || h.2.1 == q
theorem only_take {b q : Int} {l : List Hd} {k : Nat} (h : k < l.length) : only b q (l.take (k + 1)) = (only b q (l.take k) && okOf b q l[k]) := by
  unfold only
  rw [Da.take_snoc h, List.all_append]
  simp [okOf]
theorem only_no {b q : Int} {l : List Hd} {k : Nat} (h : k < l.length) (hk : okOf b q l[k] = false) : only b q l = false := by
  cases e : only b q l
  · rfl
  · unfold only at e
    have := List.all_eq_true.1 e _ (List.getElem_mem h)
    unfold okOf at hk
    rw [this] at hk; cases hk
/-- All lists of the lane are short. -/
structure Sm (l : Ln) : Prop where
  m1 : l.2.2.1.1.length ≤ 1000
  m2 : (flat l.2.2.1.1).length ≤ 1000
  m3 : l.2.2.1.2.1.length ≤ 1000
  m4 : (flat l.2.2.1.2.1).length ≤ 1000
  m5 : l.2.2.2.length ≤ 1000
theorem rsv_take {b q a : Int} {l : List Od} {k : Nat} (h : k < l.length) : rsv b q a (l.take (k + 1)) = rsv b q a (l.take k) + (if ndA b q l[k].2.2.1 = a then ndN l[k].2.2.1 l[k].2.2.2.1 l[k].2.2.2.2 else 0) := by
  rw [Da.take_snoc h, rsv_app, rsv, rsv, Int.add_zero]
end Go.Proofs.YthecinmekoaphaaGreat.La
