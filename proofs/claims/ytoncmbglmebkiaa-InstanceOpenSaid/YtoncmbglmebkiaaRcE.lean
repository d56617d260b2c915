/- Values and instances compared as a whole. -/
import Derived.Test.YtoncmbglmebkiaaRcB
import Derived.Test.YtoncmbglmebkiaaCmEq
namespace Go.Proofs.Ytoncmbglmebkiaa.Rc
open Go.RowKit
set_option linter.unusedVariables false
open Go.Proofs.Ytoncmbglmebkiaa.Rw
theorem eqI1 (m : Nat) (a b : Int) (w : World) : (Op.equalIn (m + 1) 3 (.int .i64 a) (.int .i64 b)).run Try.prog w = .ok (a == b) w := by
  rw [Op.equalIn]
  simp [run_underlying Try.underlying3]
theorem eqB1 (m : Nat) (a b : Bool) (w : World) : (Op.equalIn (m + 1) 4 (.bool a) (.bool b)).run Try.prog w = .ok (a == b) w := by
  rw [Op.equalIn]
  simp [run_underlying Try.underlying4]
theorem eqOne (m : Nat) (f g : Nat → Int) (k : Nat) (hk : k < 9) (nm : String) (hn : nm ≠ "_") (fl : Field) (hf : fl.name = nm) (ho : fl.offset = k) (ht : fl.type = 3) (fs : List Field) (w : World) :
    (Op.eqFields (m + 1) (Cm.fc f) (Cm.fc g) (fl :: fs)).run Try.prog w = if f k = g k then (Op.eqFields (m + 1) (Cm.fc f) (Cm.fc g) fs).run Try.prog w else .ok false w := by
  simp only [Op.eqFields, hf, ho, ht, hn, ne_eq, not_false_eq_true, if_true, Sem.run_bind, Cm.part_fc f k hk, Cm.part_fc g k hk, eqI1, Result.andThen_ok]
  by_cases h : f k = g k
  · simp [h]
  · simp [h]
theorem eqC2 (m : Nat) (f g : Nat → Int) (w : World) : (Op.equalIn (m + 2) 29 (.agg (Cm.fc f)) (.agg (Cm.fc g))).run Try.prog w = .ok (Cm.eqF f g) w := by
  rw [run_equalIn_agg w (m + 1) _ _ _ Cm.fieldsC (by kernel_rfl)]
  simp only [Program.fieldsOf, Try.underlying29]
  rw [eqOne m f g 0 (by omega) "Client" (by decide) _ rfl rfl rfl, eqOne m f g 1 (by omega) "Seq" (by decide) _ rfl rfl rfl, eqOne m f g 2 (by omega) "Kind" (by decide) _ rfl rfl rfl, eqOne m f g 3 (by omega) "Lane" (by decide) _ rfl rfl rfl,
    eqOne m f g 4 (by omega) "Asset" (by decide) _ rfl rfl rfl, eqOne m f g 5 (by omega) "Order" (by decide) _ rfl rfl rfl, eqOne m f g 6 (by omega) "Side" (by decide) _ rfl rfl rfl, eqOne m f g 7 (by omega) "Price" (by decide) _ rfl rfl rfl, eqOne m f g 8 (by omega) "Qty" (by decide) _ rfl rfl rfl]
  cases e : Cm.eqF f g
  · by_cases h : f 0 = g 0 ∧ f 1 = g 1 ∧ f 2 = g 2 ∧ f 3 = g 3 ∧ f 4 = g 4 ∧ f 5 = g 5 ∧ f 6 = g 6 ∧ f 7 = g 7 ∧ f 8 = g 8
    · obtain ⟨h0, h1, h2, h3, h4, h5, h6, h7, h8⟩ := h
      have : Cm.eqF f g = true := Cm.eqF_iff.2 fun i hi => by
        match i, hi with
        | 0, _ => exact h0
        | 1, _ => exact h1
        | 2, _ => exact h2
        | 3, _ => exact h3
        | 4, _ => exact h4
        | 5, _ => exact h5
        | 6, _ => exact h6
        | 7, _ => exact h7
        | 8, _ => exact h8
      rw [this] at e; cases e
    · by_cases h0 : f 0 = g 0 <;> by_cases h1 : f 1 = g 1 <;> try (simp only [h0, h1, if_false, if_true]; done)
      by_cases h2 : f 2 = g 2 <;> by_cases h3 : f 3 = g 3 <;> try (simp only [h0, h1, h2, h3, if_false, if_true]; done)
      by_cases h4 : f 4 = g 4 <;> by_cases h5 : f 5 = g 5 <;> try (simp only [h0, h1, h2, h3, h4, h5, if_false, if_true]; done)
      by_cases h6 : f 6 = g 6 <;> by_cases h7 : f 7 = g 7 <;> try (simp only [h0, h1, h2, h3, h4, h5, h6, h7, if_false, if_true]; done)
      by_cases h8 : f 8 = g 8
      · exact absurd ⟨h0, h1, h2, h3, h4, h5, h6, h7, h8⟩ h
      · simp only [h0, h1, h2, h3, h4, h5, h6, h7, h8, if_false, if_true]
  · have h := Cm.eqF_iff.1 e
    rw [if_pos (h 0 (by omega)), if_pos (h 1 (by omega)), if_pos (h 2 (by omega)), if_pos (h 3 (by omega)), if_pos (h 4 (by omega)), if_pos (h 5 (by omega)), if_pos (h 6 (by omega)), if_pos (h 7 (by omega)), if_pos (h 8 (by omega))]
    simp [Op.eqFields]
theorem eqAll (m : Nat) (f g : Nat → Int) (w : World) : ∀ (n s : Nat), s + n ≤ 7 →
    Sem.run Try.prog (forIn (List.range' s n) ((none : Option Bool), ()) fun i _ => (do
      if !(← Op.equalIn (m + 1) 3 (← Go.part 3 (Ve.fc f) (i * 1)) (← Go.part 3 (Ve.fc g) (i * 1))) then pure (ForInStep.done (some false, ())) else pure (ForInStep.yield (none, ())) : Sem (ForInStep (Option Bool × Unit)))) w =
    .ok (if (List.range' s n).all (fun i => decide (f i = g i)) then (none, ()) else (some false, ())) w
  | 0, s, _ => by simp
  | n + 1, s, h => by
    rw [List.range'_succ, List.forIn_cons]
    have h1 := Ve.part_fc f (s * 1) (by omega) w
    have h2 := Ve.part_fc g (s * 1) (by omega) w
    have h3 := eqI1 m (f (s * 1)) (g (s * 1)) w
    simp only [Sem.run_bind, h1, h2, h3, Result.andThen]
    rw [Nat.mul_one]
    by_cases e : f s = g s
    · have := eqAll m f g w n (s + 1) (by omega)
      rw [List.all_cons, decide_eq_true e, Bool.true_and]
      simpa [e] using this
    · rw [List.all_cons, decide_eq_false e, Bool.false_and]
      simp [e]
theorem eqD2 (m : Nat) (f g : Nat → Int) (w : World) : (Op.equalIn (m + 2) 31 (.agg (Ve.fc f)) (.agg (Ve.fc g))).run Try.prog w = .ok (Ve.eqV f g) w := by
  rw [show m + 2 = (m + 1) + 1 from rfl, Op.equalIn]
  simp only [Sem.run_bind, run_underlying Try.underlying31, Result.andThen_ok, Try.sizeOf3]
  have h := eqAll m f g w 7 0 (by omega)
  simp only [Std.Legacy.Range.forIn_eq_forIn_range', Std.Legacy.Range.size, Nat.sub_zero, Nat.add_sub_cancel, Nat.div_one]
  rw [h]
  by_cases e : (List.range' 0 7).all (fun i => decide (f i = g i)) = true
  · rw [if_pos e]
    have : Ve.eqV f g = true := e
    rw [this]; rfl
  · rw [if_neg e]
    have : Ve.eqV f g = false := Bool.eq_false_iff.2 e
    rw [this]; rfl
theorem fieldsV : Try.prog.underlying 33 = some (.struct (Try.prog.fieldsOf 33)) := by kernel_rfl
theorem fieldsI : Try.prog.underlying 35 = some (.struct (Try.prog.fieldsOf 35)) := by kernel_rfl
def eqVal (c : Nat → Int) (q : Int) (d : Nat → Int) (c' : Nat → Int) (q' : Int) (d' : Nat → Int) : Bool := Cm.eqF c c' && (decide (q = q') && Ve.eqV d d')
theorem partC (c : Nat → Int) (q : Int) (d : Nat → Int) (w : World) : (Go.part 29 (cv c q d) 0).run Try.prog w = .ok (.agg (Cm.fc c)) w := by
  simp [Go.part, Try.isAgg29, Try.sizeOf29, cv_cmd]
theorem partQ (c : Nat → Int) (q : Int) (d : Nat → Int) (w : World) : (Go.part 3 (cv c q d) 9).run Try.prog w = .ok (.int .i64 q) w := by
  simp [Go.part, Try.isAgg3, cv]
theorem partD (c : Nat → Int) (q : Int) (d : Nat → Int) (w : World) : (Go.part 31 (cv c q d) 10).run Try.prog w = .ok (.agg (Ve.fc d)) w := by
  simp [Go.part, Try.isAgg31, Try.sizeOf31, cv_dep]
theorem eqV3 (m : Nat) (c : Nat → Int) (q : Int) (d : Nat → Int) (c' : Nat → Int) (q' : Int) (d' : Nat → Int) (w : World) : (Op.equalIn (m + 3) 33 (.agg (cv c q d)) (.agg (cv c' q' d'))).run Try.prog w = .ok (eqVal c q d c' q' d') w := by
  rw [run_equalIn_agg w (m + 2) _ _ _ fieldsV (by kernel_rfl)]
  simp only [Program.fieldsOf, Try.underlying33]
  simp only [Op.eqFields]
  cases h1 : Cm.eqF c c'
  · simp [eqVal, h1, partC, eqC2]
  · by_cases h2 : q = q'
    · cases h3 : Ve.eqV d d' <;> simp [eqVal, h1, h2, h3, partC, eqC2, partD, eqD2, partQ, eqI1]
    · simp [eqVal, h1, h2, partC, eqC2, partQ, eqI1]
theorem eqlVal (c : Nat → Int) (q : Int) (d : Nat → Int) (c' : Nat → Int) (q' : Int) (d' : Nat → Int) (w : World) : (binOp .eql 33 (.agg (cv c q d)) (.agg (cv c' q' d'))).run Try.prog w = .ok (.bool (eqVal c q d c' q' d')) w := by
  rw [run_eql_struct, eqV3 9997]; rfl
theorem guardVal (op : BinOp) (x y : Operand) (c : Nat → Int) (q : Int) (d : Nat → Int) (c' : Nat → Int) (q' : Int) (d' : Nat → Int) (w : World) : (eqGuard op 33 x y (.agg (cv c q d)) (.agg (cv c' q' d'))).run Try.prog w = .ok () w :=
  run_eqGuard_agg w op _ x y _ _ (by kernel_rfl)
section
variable (ρ : Operand → Value) (dst : Option Tmp) (ty : TypeId) (pos : String) (after : Array Edge) (guard : Option (Nat × Bool)) (w : World)
theorem buildVal : (execOp ρ { dst, op := .build 33 #[], type := ty, pos, after, guard }).run Try.prog w = .ok (.value (.agg (cv Cm.zeroF 0 Ve.zeroV))) w := by
  have := run_build (P := Try.prog) w 33 #[] (cv Cm.zeroF 0 Ve.zeroV) (by kernel_rfl)
  simp [execOp, this]
end
attribute [go_sem ↓] eqlVal guardVal buildVal
end Go.Proofs.Ytoncmbglmebkiaa.Rc
