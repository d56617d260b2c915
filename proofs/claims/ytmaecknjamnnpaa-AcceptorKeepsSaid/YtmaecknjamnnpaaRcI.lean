/- Instances compared as a whole. -/
import Derived.Test.YtmaecknjamnnpaaRcH
namespace Go.Proofs.Ytmaecknjamnnpaa.Rc
open Go.RowKit
set_option linter.unusedVariables false
open Go.Proofs.Ytmaecknjamnnpaa.Rw
theorem fieldsP : Try.prog.underlying 24 = some (.struct (Try.prog.fieldsOf 24)) := by kernel_rfl
theorem fieldsB : Try.prog.underlying 26 = some (.struct (Try.prog.fieldsOf 26)) := by kernel_rfl
theorem eqP2 (m : Nat) (a b c d : Int) (w : World) : (Op.equalIn (m + 2) 24 (.agg #[.int .i64 a, .int .i64 b]) (.agg #[.int .i64 c, .int .i64 d])).run Try.prog w = .ok (a == c && b == d) w := by
  rw [run_equalIn_agg w (m + 1) _ _ _ fieldsP (by kernel_rfl)]
  simp only [Program.fieldsOf, Try.underlying24]
  by_cases h1 : a = c <;> by_cases h2 : b = d <;> simp [Op.eqFields, Go.part, Try.isAgg3, eqI1, h1, h2]
theorem eqB2 (m : Nat) (a b c d : Int) (w : World) : (Op.equalIn (m + 2) 26 (.agg #[.int .i64 a, .int .i64 b]) (.agg #[.int .i64 c, .int .i64 d])).run Try.prog w = .ok (a == c && b == d) w := by
  rw [run_equalIn_agg w (m + 1) _ _ _ fieldsB (by kernel_rfl)]
  simp only [Program.fieldsOf, Try.underlying26]
  by_cases h1 : a = c <;> by_cases h2 : b = d <;> simp [Op.eqFields, Go.part, Try.isAgg3, eqI1, h1, h2]
/-- Two instances compared. -/
def eqIns (i j : Ins) : Bool := ((i.pr == j.pr) && (i.ps == j.ps)) && (((i.bn == j.bn) && (i.br == j.br)) && (((i.tn == j.tn) && (i.tr == j.tr)) && ((i.st == j.st) && (eqVal i.c i.q i.d j.c j.q j.d && (i.sm == j.sm)))))
theorem pP (i : Ins) (w : World) : (Go.part 24 (ci i) 0).run Try.prog w = .ok (.agg #[.int .i64 i.pr, .int .i64 i.ps]) w := by
  simp [Go.part, Try.isAgg24, Try.sizeOf24, ci_place]
theorem pB (i : Ins) (w : World) : (Go.part 26 (ci i) 2).run Try.prog w = .ok (.agg #[.int .i64 i.bn, .int .i64 i.br]) w := by
  simp [Go.part, Try.isAgg26, Try.sizeOf26, ci_prom]
theorem pT (i : Ins) (w : World) : (Go.part 26 (ci i) 4).run Try.prog w = .ok (.agg #[.int .i64 i.tn, .int .i64 i.tr]) w := by
  simp [Go.part, Try.isAgg26, Try.sizeOf26, ci_taken]
theorem pS (i : Ins) (w : World) : (Go.part 3 (ci i) 6).run Try.prog w = .ok (.int .i64 i.st) w := by
  simp [Go.part, Try.isAgg3, ci]
theorem pV (i : Ins) (w : World) : (Go.part 32 (ci i) 7).run Try.prog w = .ok (.agg (cv i.c i.q i.d)) w := by
  simp [Go.part, Try.isAgg32, Try.sizeOf32, ci_val]
theorem pM (i : Ins) (w : World) : (Go.part 4 (ci i) 24).run Try.prog w = .ok (.bool i.sm) w := by
  simp [Go.part, Try.isAgg4, ci]
theorem eqIns4 (m : Nat) (i j : Ins) (w : World) : (Op.equalIn (m + 4) 37 (.agg (ci i)) (.agg (ci j))).run Try.prog w = .ok (eqIns i j) w := by
  rw [run_equalIn_agg w (m + 3) _ _ _ fieldsI (by kernel_rfl)]
  simp only [Program.fieldsOf, Try.underlying37]
  simp only [Op.eqFields]
  have e1 := eqP2 (m + 1) i.pr i.ps j.pr j.ps
  have e2 := eqB2 (m + 1) i.bn i.br j.bn j.br
  have e3 := eqB2 (m + 1) i.tn i.tr j.tn j.tr
  have e4 := eqI1 (m + 2) i.st j.st
  have e5 := eqV3 m i.c i.q i.d j.c j.q j.d
  have e6 := eqB1 (m + 2) i.sm j.sm
  cases h1 : (i.pr == j.pr && i.ps == j.ps)
  · rw [h1] at e1
    simp [eqIns, h1, pP, e1]
  rw [h1] at e1
  cases h2 : (i.bn == j.bn && i.br == j.br)
  · rw [h2] at e2
    simp [eqIns, h1, h2, pP, pB, e1, e2]
  rw [h2] at e2
  cases h3 : (i.tn == j.tn && i.tr == j.tr)
  · rw [h3] at e3
    simp [eqIns, h1, h2, h3, pP, pB, pT, e1, e2, e3]
  rw [h3] at e3
  cases h4 : (i.st == j.st)
  · rw [h4] at e4
    simp [eqIns, h1, h2, h3, h4, pP, pB, pT, pS, e1, e2, e3, e4]
  rw [h4] at e4
  cases h5 : eqVal i.c i.q i.d j.c j.q j.d
  · rw [h5] at e5
    simp [eqIns, h1, h2, h3, h4, h5, pP, pB, pT, pS, pV, e1, e2, e3, e4, e5]
  rw [h5] at e5
  cases h6 : (i.sm == j.sm)
  · rw [h6] at e6
    simp [eqIns, h1, h2, h3, h4, h5, h6, pP, pB, pT, pS, pV, pM, e1, e2, e3, e4, e5, e6]
  · rw [h6] at e6
    simp [eqIns, h1, h2, h3, h4, h5, h6, pP, pB, pT, pS, pV, pM, e1, e2, e3, e4, e5, e6]
theorem eqlIns (i j : Ins) (w : World) : (binOp .eql 37 (.agg (ci i)) (.agg (ci j))).run Try.prog w = .ok (.bool (eqIns i j)) w := by
  rw [run_eql_struct, eqIns4 9996]; rfl
theorem neqIns (i j : Ins) (w : World) : (binOp .neq 37 (.agg (ci i)) (.agg (ci j))).run Try.prog w = .ok (.bool (!eqIns i j)) w := by
  rw [run_neq_struct, eqIns4 9996]; rfl
theorem guardIns (op : BinOp) (x y : Operand) (i j : Ins) (w : World) : (eqGuard op 37 x y (.agg (ci i)) (.agg (ci j))).run Try.prog w = .ok () w :=
  run_eqGuard_agg w op _ x y _ _ (by kernel_rfl)
attribute [go_sem ↓] eqlIns neqIns guardIns
theorem eqVal_iff {c c' : Nat → Int} {q q' : Int} {d d' : Nat → Int} : eqVal c q d c' q' d' = true ↔ (∀ k, k < 9 → c k = c' k) ∧ q = q' ∧ ∀ k, k < 7 → d k = d' k := by
  simp [eqVal, Cm.eqF_iff, Ve.eqV_iff]
theorem eqIns_iff {i j : Ins} : eqIns i j = true ↔ Same i j := by
  unfold eqIns
  simp only [Bool.and_eq_true, beq_iff_eq, eqVal_iff]
  constructor
  · rintro ⟨⟨h1, h2⟩, ⟨h3, h4⟩, ⟨h5, h6⟩, h7, ⟨h8, h9, h10⟩, h11⟩
    exact ⟨h1, h2, h3, h4, h5, h6, h7, h8, h9, h10, h11⟩
  · rintro ⟨h1, h2, h3, h4, h5, h6, h7, h8, h9, h10, h11⟩
    exact ⟨⟨h1, h2⟩, ⟨h3, h4⟩, ⟨h5, h6⟩, h7, ⟨h8, h9, h10⟩, h11⟩
theorem eqIns_refl (i : Ins) : eqIns i i = true := eqIns_iff.2 ⟨rfl, rfl, rfl, rfl, rfl, rfl, rfl, fun _ _ => rfl, rfl, fun _ _ => rfl, rfl⟩
theorem eqVal_refl (c : Nat → Int) (q : Int) (d : Nat → Int) : eqVal c q d c q d = true := eqVal_iff.2 ⟨fun _ _ => rfl, rfl, fun _ _ => rfl⟩
end Go.Proofs.Ytmaecknjamnnpaa.Rc
