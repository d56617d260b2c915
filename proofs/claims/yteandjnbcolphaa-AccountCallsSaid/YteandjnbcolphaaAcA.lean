/- Holdings in memory; the document's own small functions of layer 7. -/
import Derived.Test.YteandjnbcolphaaSl
import Derived.Test.YteandjnbcolphaaAcPure
import Derived.Test.YteandjnbcolphaaMoC
import Derived.Test.YteandjnbcolphaaFxPure
import Derived.Lib.Hide
import Derived.Deep.QuietTactic
namespace Go.Proofs.Yteandjnbcolphaa.Ac
open Go.RowKit
set_option linter.unusedVariables false
open Go.Proofs.Yteandjnbcolphaa.Rw
open Go.Proofs.Yteandjnbcolphaa.Sl
theorem ret_bool {a b : Bool} (h : a = b) : Ending.returned (.bool a) = .returned (.bool b) := by rw [h]
theorem ret_int {k : IntKind} {a b : Int} (h : a = b) : Ending.returned (.int k a) = .returned (.int k b) := by rw [h]
theorem ret_v {a b : Value} (h : a = b) : Ending.returned a = .returned b := by rw [h]
def enc (h : Hd) : List Value := [.int .i64 h.1, .int .i64 h.2.1, .int .i64 h.2.2]
theorem enc_len (h : Hd) : (enc h).length = 3 := rfl
abbrev HL (l : List Hd) (v : Value) (w : World) : Prop := SL enc 3 l v w
/-- The three cells of an element. -/
theorem at3 {l : List Hd} {b off : Nat} {w : World} (h : At enc 3 l b off w) (i : Nat) (hi : i < l.length) :
    w.cell? ⟨b, off + i * 3, none⟩ = some (.int .i64 l[i].1) ∧ w.cell? ⟨b, off + i * 3 + 1, none⟩ = some (.int .i64 l[i].2.1) ∧ w.cell? ⟨b, off + i * 3 + 2, none⟩ = some (.int .i64 l[i].2.2) :=
  have e := List.getElem?_eq_getElem hi
  ⟨h.2 i _ e 0 _ rfl, h.2 i _ e 1 _ rfl, h.2 i _ e 2 _ rfl⟩
theorem fieldsP : Try.prog.underlying 24 = some (.struct (Try.prog.fieldsOf 24)) := by kernel_rfl
theorem fieldsH : Try.prog.underlying 50 = some (.struct (Try.prog.fieldsOf 50)) := by kernel_rfl
def eqP (a b : Pu) : Bool := decide (a = b)
theorem eqP_iff {a b : Pu} : eqP a b = true ↔ a = b := by simp [eqP]
theorem runP (d : Nat) (a b c e : Int) (w : World) : (Op.equalIn (d + 2) 24 (.agg #[.int .i64 a, .int .i64 b]) (.agg #[.int .i64 c, .int .i64 e])).run Try.prog w = .ok (eqP (a, b) (c, e)) w := by
  rw [run_equalIn_agg w (d + 1) _ _ _ fieldsP (by kernel_rfl)]
  simp only [Program.fieldsOf, Try.underlying24]
  simp [Op.eqFields, go_sem, eqP]
  by_cases h1 : a = c <;> by_cases h2 : b = e <;> simp [h1, h2]
theorem eqlP (a b c e : Int) (w : World) : (binOp .eql 24 (.agg #[.int .i64 a, .int .i64 b]) (.agg #[.int .i64 c, .int .i64 e])).run Try.prog w = .ok (.bool (eqP (a, b) (c, e))) w := by
  rw [run_eql_struct, show (10000 : Nat) = 9998 + 2 from rfl, runP]; rfl
theorem neqP (a b c e : Int) (w : World) : (binOp .neq 24 (.agg #[.int .i64 a, .int .i64 b]) (.agg #[.int .i64 c, .int .i64 e])).run Try.prog w = .ok (.bool (!eqP (a, b) (c, e))) w := by
  rw [run_neq_struct, show (10000 : Nat) = 9998 + 2 from rfl, runP]; rfl
theorem guardP (op : BinOp) (x y : Operand) (a b c e : Int) (w : World) : (eqGuard op 24 x y (.agg #[.int .i64 a, .int .i64 b]) (.agg #[.int .i64 c, .int .i64 e])).run Try.prog w = .ok () w :=
  run_eqGuard_agg w op _ x y _ _ (by kernel_rfl)
def eqH (a b : Hd) : Bool := decide (a = b)
theorem eqH_iff {a b : Hd} : eqH a b = true ↔ a = b := by simp [eqH]
theorem runH (a b c x y z : Int) (w : World) : (Op.equalIn 10000 50 (.agg #[.int .i64 a, .int .i64 b, .int .i64 c]) (.agg #[.int .i64 x, .int .i64 y, .int .i64 z])).run Try.prog w = .ok (eqH (a, b, c) (x, y, z)) w := by
  rw [run_equalIn_agg w 9999 _ _ _ fieldsH (by kernel_rfl)]
  simp only [Program.fieldsOf, Try.underlying50]
  simp [Op.eqFields, go_sem]
  by_cases h1 : a = x <;> by_cases h2 : b = y <;> by_cases h3 : c = z <;> simp [eqH, h1, h2, h3]
theorem neqH (a b c x y z : Int) (w : World) : (binOp .neq 50 (.agg #[.int .i64 a, .int .i64 b, .int .i64 c]) (.agg #[.int .i64 x, .int .i64 y, .int .i64 z])).run Try.prog w = .ok (.bool (!eqH (a, b, c) (x, y, z))) w := by
  rw [run_neq_struct, runH]; rfl
theorem guardH (op : BinOp) (p q : Operand) (a b c x y z : Int) (w : World) : (eqGuard op 50 p q (.agg #[.int .i64 a, .int .i64 b, .int .i64 c]) (.agg #[.int .i64 x, .int .i64 y, .int .i64 z])).run Try.prog w = .ok () w :=
  run_eqGuard_agg w op _ p q _ _ (by kernel_rfl)
attribute [go_sem ↓] eqlP neqP guardP neqH guardH
end Go.Proofs.Yteandjnbcolphaa.Ac
