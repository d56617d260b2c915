/- Commands compared as a whole. -/
import Derived.Test.YtmaecknjamnnpaaCmRow
namespace Go.Proofs.Ytmaecknjamnnpaa.Cm
open Go.RowKit
set_option linter.unusedVariables false
open Go.Proofs.Ytmaecknjamnnpaa.Rw
theorem fieldsC : Try.prog.underlying 28 = some (.struct (Try.prog.fieldsOf 28)) := by kernel_rfl
theorem part_fc (f : Nat → Int) (k : Nat) (h : k < 9) (w : World) : (part 3 (fc f) k).run Try.prog w = .ok (.int .i64 (f k)) w := by
  simp [part, Try.isAgg3, fc_at f k h]
theorem eqInt (a b : Int) (w : World) : (Op.equalIn 9999 3 (.int .i64 a) (.int .i64 b)).run Try.prog w = .ok (a == b) w := by
  rw [show (9999 : Nat) = 9998 + 1 from rfl, Op.equalIn]
  simp [run_underlying Try.underlying3]
theorem eqOne (f g : Nat → Int) (k : Nat) (hk : k < 9) (nm : String) (hn : nm ≠ "_") (fl : Field) (hf : fl.name = nm) (ho : fl.offset = k) (ht : fl.type = 3) (fs : List Field) (w : World) :
    (Op.eqFields 9999 (fc f) (fc g) (fl :: fs)).run Try.prog w = if f k = g k then (Op.eqFields 9999 (fc f) (fc g) fs).run Try.prog w else .ok false w := by
  simp only [Op.eqFields, hf, ho, ht, hn, ne_eq, not_false_eq_true, if_true, Sem.run_bind, part_fc f k hk, part_fc g k hk, eqInt, Result.andThen_ok]
  by_cases h : f k = g k
  · simp [h]
  · simp [h]
theorem eqC (f g : Nat → Int) (w : World) : (Op.equalIn 10000 28 (.agg (fc f)) (.agg (fc g))).run Try.prog w = .ok (eqF f g) w := by
  rw [run_equalIn_agg w 9999 _ _ _ fieldsC (by kernel_rfl)]
  simp only [Program.fieldsOf, Try.underlying28]
  rw [eqOne f g 0 (by omega) "Client" (by decide) _ rfl rfl rfl, eqOne f g 1 (by omega) "Seq" (by decide) _ rfl rfl rfl, eqOne f g 2 (by omega) "Kind" (by decide) _ rfl rfl rfl, eqOne f g 3 (by omega) "Lane" (by decide) _ rfl rfl rfl,
    eqOne f g 4 (by omega) "Asset" (by decide) _ rfl rfl rfl, eqOne f g 5 (by omega) "Order" (by decide) _ rfl rfl rfl, eqOne f g 6 (by omega) "Side" (by decide) _ rfl rfl rfl, eqOne f g 7 (by omega) "Price" (by decide) _ rfl rfl rfl, eqOne f g 8 (by omega) "Qty" (by decide) _ rfl rfl rfl]
  cases e : eqF f g
  · by_cases h : f 0 = g 0 ∧ f 1 = g 1 ∧ f 2 = g 2 ∧ f 3 = g 3 ∧ f 4 = g 4 ∧ f 5 = g 5 ∧ f 6 = g 6 ∧ f 7 = g 7 ∧ f 8 = g 8
    · obtain ⟨h0, h1, h2, h3, h4, h5, h6, h7, h8⟩ := h
      have : eqF f g = true := eqF_iff.2 fun i hi => by
        match i, hi with
        | 0, _ => exact h0
        | 1, _ => exact h1
        | 2, _ => exact h2
        | 3, _ => exact h3
        | 4, _ => exact h4
        | 5, _ => exact h5
        | 6, _ => exact h6
        | 7, _ => exact h7
        | 8, _ => exact h8
      rw [this] at e; cases e
    · by_cases h0 : f 0 = g 0 <;> by_cases h1 : f 1 = g 1 <;> try (simp only [h0, h1, if_false, if_true]; done)
      by_cases h2 : f 2 = g 2 <;> by_cases h3 : f 3 = g 3 <;> try (simp only [h0, h1, h2, h3, if_false, if_true]; done)
      by_cases h4 : f 4 = g 4 <;> by_cases h5 : f 5 = g 5 <;> try (simp only [h0, h1, h2, h3, h4, h5, if_false, if_true]; done)
      by_cases h6 : f 6 = g 6 <;> by_cases h7 : f 7 = g 7 <;> try (simp only [h0, h1, h2, h3, h4, h5, h6, h7, if_false, if_true]; done)
      by_cases h8 : f 8 = g 8
      · exact absurd ⟨h0, h1, h2, h3, h4, h5, h6, h7, h8⟩ h
      · simp only [h0, h1, h2, h3, h4, h5, h6, h7, h8, if_false, if_true]
  · have h := eqF_iff.1 e
    rw [if_pos (h 0 (by omega)), if_pos (h 1 (by omega)), if_pos (h 2 (by omega)), if_pos (h 3 (by omega)), if_pos (h 4 (by omega)), if_pos (h 5 (by omega)), if_pos (h 6 (by omega)), if_pos (h 7 (by omega)), if_pos (h 8 (by omega))]
    simp [Op.eqFields]
theorem eqlC (f g : Nat → Int) (w : World) : (binOp .eql 28 (.agg (fc f)) (.agg (fc g))).run Try.prog w = .ok (.bool (eqF f g)) w := by
  rw [run_eql_struct, eqC]; rfl
theorem neqC (f g : Nat → Int) (w : World) : (binOp .neq 28 (.agg (fc f)) (.agg (fc g))).run Try.prog w = .ok (.bool (!eqF f g)) w := by
  rw [run_neq_struct, eqC]; rfl
theorem guardC (op : BinOp) (x y : Operand) (f g : Nat → Int) (w : World) : (eqGuard op 28 x y (.agg (fc f)) (.agg (fc g))).run Try.prog w = .ok () w :=
  run_eqGuard_agg w op _ x y _ _ (by kernel_rfl)
attribute [go_sem ↓] eqC eqlC neqC guardC
end Go.Proofs.Ytmaecknjamnnpaa.Cm
