/- The document's own of layer 16: Right. -/
import Derived.Test.YtoncmbglmebkiaaRcE
namespace Go.Proofs.Ytoncmbglmebkiaa.Rc
open Go.RowKit
set_option linter.unusedVariables false
open Go.Proofs.Ytoncmbglmebkiaa.Rw
open Go.Proofs.Ytoncmbglmebkiaa.Ba (valB lessB)
/-- A variable that holds an instance. -/
structure At (w : World) (b : Nat) (i : Ins) : Prop where
  rw : row w b = ci i
  lt : b < w.heap.size
theorem At.stays {w w' : World} {b : Nat} {i : Ins} (h : At w b i) (k : Below w.heap.size w w') : At w' b i := ⟨row_stays h.rw h.lt k, Nat.lt_of_lt_of_le h.lt k.size⟩
theorem At.new (w : World) (i : Ins) (t : TypeId) : At (w.alloc (.cells (ci i) t)) w.heap.size i := ⟨row_new _ _ _ _ rfl, by simp⟩
theorem At.cell {w : World} {b : Nat} {i : Ins} (h : At w b i) (o : Nat) {v : Value} (hv : (ci i)[o]? = some v) : w.cell? ⟨b, o, none⟩ = some v := by
  rw [cell_row (n := 24) w b o (by rw [h.rw]; rfl), h.rw]; exact hv
theorem At.facts {w : World} {b : Nat} {i : Ins} (h : At w b i) : row w b = ci i ∧ w.cell? ⟨b, 6, none⟩ = some (.int .i64 i.st) ∧ w.cell? ⟨b, 24, none⟩ = some (.bool i.sm) ∧ b < w.heap.size := ⟨h.rw, h.cell 6 rfl, h.cell 24 rfl, h.lt⟩
theorem bare_eq (i : Ins) : bare i = (eqVal i.c i.q i.d Cm.zeroF 0 Ve.zeroV && (decide (i.tn = 0 ∧ i.tr = 0) && !i.sm)) := by
  unfold bare eqVal
  cases Cm.eqF i.c Cm.zeroF <;> cases Ve.eqV i.d Ve.zeroV <;> by_cases h1 : i.q = 0 <;> by_cases h2 : i.tn = 0 <;> by_cases h3 : i.tr = 0 <;> simp [h1, h2, h3]
end Go.Proofs.Ytoncmbglmebkiaa.Rc
