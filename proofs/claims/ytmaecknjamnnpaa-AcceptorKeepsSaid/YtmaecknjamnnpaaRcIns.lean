/- Instances: what they are, which may be (split off from layer 16's). -/
import Derived.Test.YtmaecknjamnnpaaCmPure
import Derived.Test.YtmaecknjamnnpaaVeC
import Derived.Test.YtmaecknjamnnpaaBaC
namespace Go.Proofs.Ytmaecknjamnnpaa.Rc
set_option linter.unusedVariables false
open Go.Proofs.Ytmaecknjamnnpaa.Cm
open Go.Proofs.Ytmaecknjamnnpaa.Ve (rightB okAt rightB_iff okAt_iff zeroV eqV eqV_iff)
open Go.Proofs.Ytmaecknjamnnpaa.Ba (valB lessB)
/-- An instance. -/
structure Ins where
  pr : Int
  ps : Int
  bn : Int
  br : Int
  tn : Int
  tr : Int
  st : Int
  c : Nat → Int
  q : Int
  d : Nat → Int
  sm : Bool
/-- A value that may be. -/
def okV (c : Nat → Int) (q : Int) (d : Nat → Int) (n : Int) : Bool := chkB c && (decide (0 ≤ q) && (decide (q ≤ 1073741824) && rightB d n))
theorem okV_iff {c : Nat → Int} {q : Int} {d : Nat → Int} {n : Int} : okV c q d n = true ↔ chkB c = true ∧ 0 ≤ q ∧ q ≤ 1073741824 ∧ rightB d n = true := by simp [okV]
/-- What an instance of which nothing is known must be. -/
def bare (i : Ins) : Bool := eqF i.c zeroF && (decide (i.q = 0) && (eqV i.d zeroV && (decide (i.tn = 0) && (decide (i.tr = 0) && !i.sm))))
/-- An instance that may be. -/
def okI (i : Ins) (n : Int) : Bool :=
  decide (1 ≤ n ∧ n ≤ 7) && (decide (0 ≤ i.pr ∧ i.pr < n ∧ 1 ≤ i.ps ∧ i.ps ≤ 400) && (valB i.bn i.br && (valB i.tn i.tr && (!lessB i.bn i.br i.tn i.tr && (decide (0 ≤ i.st ∧ i.st ≤ 3) && (okV i.c i.q i.d n && (decide (i.st ≠ 0) || bare i)))))))
theorem okI_iff {i : Ins} {n : Int} : okI i n = true ↔ (1 ≤ n ∧ n ≤ 7) ∧ (0 ≤ i.pr ∧ i.pr < n ∧ 1 ≤ i.ps ∧ i.ps ≤ 400) ∧ valB i.bn i.br = true ∧ valB i.tn i.tr = true ∧ lessB i.bn i.br i.tn i.tr = false ∧ (0 ≤ i.st ∧ i.st ≤ 3) ∧ okV i.c i.q i.d n = true ∧ (i.st ≠ 0 ∨ bare i = true) := by
  simp [okI]
/-- The same cells. -/
structure Same (i j : Ins) : Prop where
  pr : i.pr = j.pr
  ps : i.ps = j.ps
  bn : i.bn = j.bn
  br : i.br = j.br
  tn : i.tn = j.tn
  tr : i.tr = j.tr
  st : i.st = j.st
  c : ∀ k, k < 9 → i.c k = j.c k
  q : i.q = j.q
  d : ∀ k, k < 7 → i.d k = j.d k
  sm : i.sm = j.sm
def flagN (b : Bool) : Int := if b then 1 else 0
end Go.Proofs.Ytmaecknjamnnpaa.Rc
