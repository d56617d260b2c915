/- Sessions and replies in memory. -/
import Derived.Test.YtigoemecphilkaaRows
import Derived.Test.YtigoemecphilkaaDa
import Derived.Test.YtigoemecphilkaaSePure
import Derived.Test.YtigoemecphilkaaFxPure
import Derived.Test.YtigoemecphilkaaRf
import Derived.Lib.Hide
import Derived.Deep.QuietTactic
import Derived.StillTailTactics
namespace Go.Proofs.Ytigoemecphilkaa.Se
open Go.RowKit
set_option linter.unusedVariables false
open Go.Proofs.Ytigoemecphilkaa.Rw
open Go.Proofs.Ytigoemecphilkaa.Da
theorem ret_bool {a b : Bool} (h : a = b) : Ending.returned (.bool a) = .returned (.bool b) := by rw [h]
theorem ret_int {k : IntKind} {a b : Int} (h : a = b) : Ending.returned (.int k a) = .returned (.int k b) := by rw [h]
def cellsS (s : Sn) : List Value := [.int .i64 s.1, .int .i64 s.2.1, .int .i64 s.2.2.1, .int .i64 s.2.2.2.1, .int .i64 s.2.2.2.2.1, .int .i64 s.2.2.2.2.2.1, .int .i64 s.2.2.2.2.2.2]
/-- The five cells of a reply, the seven of a session. -/
abbrev cR (r : Rp) : Array Value := #[.int .i64 r.1, .int .i64 r.2.1, .int .i64 r.2.2.1, .int .i64 r.2.2.2.1, .int .i64 r.2.2.2.2]
abbrev cS (s : Sn) : Array Value := #[.int .i64 s.1, .int .i64 s.2.1, .int .i64 s.2.2.1, .int .i64 s.2.2.2.1, .int .i64 s.2.2.2.2.1, .int .i64 s.2.2.2.2.2.1, .int .i64 s.2.2.2.2.2.2]
def eS : Enc Sn := Enc.flat 7 cellsS (fun _ => rfl) (fun o u hu => by simp [cellsS] at hu; rcases hu with rfl | rfl | rfl | rfl | rfl | rfl | rfl <;> rfl)
abbrev NL (B : Bs) (l : List Sn) (v : Value) (w : World) : Prop := Is eS 42 B l v w
theorem typesS : 42 ∉ eS.ts := by decide
theorem infoS : (Try.prog.info? 42).map (fun i => (i.zero, i.size, i.bytes)) = some (some (.agg #[.int .i64 0, .int .i64 0, .int .i64 0, .int .i64 0, .int .i64 0, .int .i64 0, .int .i64 0]), 7, 56) := by kernel_rfl
theorem elemS : Elem Try.prog 22 42 eS.k 56 := elem_of Try.underlying22 infoS rfl (by decide)
/-- The seven cells of a session in a list. -/
theorem at7 {B : Bs} {l : List Sn} {b off : Nat} {w : World} (h : Lies eS 42 B l b off w) (i : Nat) (hi : i < l.length) :
    w.cell? ⟨b, off + i * 7, none⟩ = some (.int .i64 l[i].1) ∧ w.cell? ⟨b, off + i * 7 + 1, none⟩ = some (.int .i64 l[i].2.1) ∧ w.cell? ⟨b, off + i * 7 + 2, none⟩ = some (.int .i64 l[i].2.2.1) ∧ w.cell? ⟨b, off + i * 7 + 3, none⟩ = some (.int .i64 l[i].2.2.2.1) ∧ w.cell? ⟨b, off + i * 7 + 4, none⟩ = some (.int .i64 l[i].2.2.2.2.1) ∧ w.cell? ⟨b, off + i * 7 + 5, none⟩ = some (.int .i64 l[i].2.2.2.2.2.1) ∧ w.cell? ⟨b, off + i * 7 + 6, none⟩ = some (.int .i64 l[i].2.2.2.2.2.2) := by
  obtain ⟨cs, rfl, hu⟩ := h.at i hi
  exact ⟨hu 0 _ rfl, hu 1 _ rfl, hu 2 _ rfl, hu 3 _ rfl, hu 4 _ rfl, hu 5 _ rfl, hu 6 _ rfl⟩
section
variable (ρ : Operand → Value) (dst : Option Tmp) (ty : TypeId) (pos : String) (after : Array Edge) (guard : Option (Nat × Bool)) (w : World)
theorem loadS (x : Operand) (h : (rowOf w (ρ x)).size = 7) : (execOp ρ { dst, op := .load 42 x, type := ty, pos, after, guard }).run Try.prog w = .ok (.value (.agg (rowOf w (ρ x)))) w :=
  exec_load (n := 6) ρ dst ty pos after guard w Try.underlying42 rfl (by kernel_rfl) x h
theorem storeS (p x : Operand) (h : plainAt 7 w (ρ p) = true) (hs : (ρ x).cells.size = 7) (h1 : oneAll (ρ x) = true) (ha : ρ x = .agg (ρ x).cells) : (execOp ρ { dst, op := .store 42 p x, type := ty, pos, after, guard }).run Try.prog w = .ok .skip (putRow w (ρ p) (ρ x).cells) :=
  exec_store (n := 6) ρ dst ty pos after guard w (by kernel_rfl) p x h hs h1 ha
theorem loadR (x : Operand) (h : (rowOf w (ρ x)).size = 5) : (execOp ρ { dst, op := .load 25 x, type := ty, pos, after, guard }).run Try.prog w = .ok (.value (.agg (rowOf w (ρ x)))) w :=
  exec_load (n := 4) ρ dst ty pos after guard w Try.underlying25 rfl (by kernel_rfl) x h
theorem storeR (p x : Operand) (h : plainAt 5 w (ρ p) = true) (hs : (ρ x).cells.size = 5) (h1 : oneAll (ρ x) = true) (ha : ρ x = .agg (ρ x).cells) : (execOp ρ { dst, op := .store 25 p x, type := ty, pos, after, guard }).run Try.prog w = .ok .skip (putRow w (ρ p) (ρ x).cells) :=
  exec_store (n := 4) ρ dst ty pos after guard w (by kernel_rfl) p x h hs h1 ha
end
theorem cells_agg (c : Array Value) : (Value.agg c).cells = c := rfl
theorem one5 (a b c d e : Int) : oneAll (.agg #[.int .i64 a, .int .i64 b, .int .i64 c, .int .i64 d, .int .i64 e]) = true := by simp [oneAll, Value.cells, Value.oneCell']
theorem one7 (a b c d e f g : Int) : oneAll (.agg #[.int .i64 a, .int .i64 b, .int .i64 c, .int .i64 d, .int .i64 e, .int .i64 f, .int .i64 g]) = true := by simp [oneAll, Value.cells, Value.oneCell']
theorem size5 (a b c d e : Value) : (#[a, b, c, d, e] : Array Value).size = 5 := rfl
theorem size7 (a b c d e f g : Value) : (#[a, b, c, d, e, f, g] : Array Value).size = 7 := rfl
attribute [go_sem ↓] loadS storeS loadR storeR
attribute [go_sem] cells_agg one5 size5 one7 size7
theorem ret_R2 {fn : Func} {p q : Tmp} (h : fn.results = #[.cell p 25, .tmp q]) (tmps : Array Value) (w : World) {cs : Array Value} (hs : cs.size = 5) (hr : rowOf w (tmps.getD p undef) = cs) : (results fn tmps).run Try.prog w = .ok (.tuple #[.agg cs, tmps.getD q undef]) w :=
  ret2 (n := 4) h Try.underlying25 rfl (by kernel_rfl) tmps w hs hr
theorem fieldsR : Try.prog.underlying 25 = some (.struct (Try.prog.fieldsOf 25)) := by kernel_rfl
theorem fieldsS : Try.prog.underlying 42 = some (.struct (Try.prog.fieldsOf 42)) := by kernel_rfl
def eqR (a b : Rp) : Bool := decide (a = b)
theorem eqR_iff {a b : Rp} : eqR a b = true ↔ a = b := by simp [eqR]
def eqS (a b : Sn) : Bool := decide (a = b)
theorem eqS_iff {a b : Sn} : eqS a b = true ↔ a = b := by simp [eqS]
theorem runR (n : Nat) (hn : 2 ≤ n) (a b c d e a' b' c' d' e' : Int) (w : World) : (Op.equalIn n 25 (.agg #[.int .i64 a, .int .i64 b, .int .i64 c, .int .i64 d, .int .i64 e]) (.agg #[.int .i64 a', .int .i64 b', .int .i64 c', .int .i64 d', .int .i64 e'])).run Try.prog w = .ok (eqR (a, b, c, d, e) (a', b', c', d', e')) w := by
  obtain ⟨m, rfl⟩ : ∃ m, n = m + 2 := ⟨n - 2, by omega⟩
  rw [run_equalIn_agg w (m + 1) _ _ _ fieldsR (by kernel_rfl)]
  simp only [Program.fieldsOf, Try.underlying25]
  simp [Op.eqFields, go_sem]
  by_cases h0 : a = a' <;> by_cases h1 : b = b' <;> by_cases h2 : c = c' <;> by_cases h3 : d = d' <;> by_cases h4 : e = e' <;> simp [eqR, h0, h1, h2, h3, h4]
theorem eqlR (a b c d e a' b' c' d' e' : Int) (w : World) : (binOp .eql 25 (.agg #[.int .i64 a, .int .i64 b, .int .i64 c, .int .i64 d, .int .i64 e]) (.agg #[.int .i64 a', .int .i64 b', .int .i64 c', .int .i64 d', .int .i64 e'])).run Try.prog w = .ok (.bool (eqR (a, b, c, d, e) (a', b', c', d', e'))) w := by
  rw [run_eql_struct, runR 10000 (by omega)]; rfl
theorem neqR (a b c d e a' b' c' d' e' : Int) (w : World) : (binOp .neq 25 (.agg #[.int .i64 a, .int .i64 b, .int .i64 c, .int .i64 d, .int .i64 e]) (.agg #[.int .i64 a', .int .i64 b', .int .i64 c', .int .i64 d', .int .i64 e'])).run Try.prog w = .ok (.bool (!eqR (a, b, c, d, e) (a', b', c', d', e'))) w := by
  rw [run_neq_struct, runR 10000 (by omega)]; rfl
theorem guardR (op : BinOp) (p q : Operand) (a b c d e a' b' c' d' e' : Int) (w : World) : (eqGuard op 25 p q (.agg #[.int .i64 a, .int .i64 b, .int .i64 c, .int .i64 d, .int .i64 e]) (.agg #[.int .i64 a', .int .i64 b', .int .i64 c', .int .i64 d', .int .i64 e'])).run Try.prog w = .ok () w :=
  run_eqGuard_agg w op _ p q _ _ (by kernel_rfl)
theorem runS (a b c d e f g a' b' c' d' e' f' g' : Int) (w : World) : (Op.equalIn 10000 42 (.agg #[.int .i64 a, .int .i64 b, .int .i64 c, .int .i64 d, .int .i64 e, .int .i64 f, .int .i64 g]) (.agg #[.int .i64 a', .int .i64 b', .int .i64 c', .int .i64 d', .int .i64 e', .int .i64 f', .int .i64 g'])).run Try.prog w = .ok (eqS (a, b, c, d, e, f, g) (a', b', c', d', e', f', g')) w := by
  rw [run_equalIn_agg w 9999 _ _ _ fieldsS (by kernel_rfl)]
  simp only [Program.fieldsOf, Try.underlying42]
  simp [Op.eqFields, go_sem, runR]
  by_cases h0 : a = a' <;> by_cases h1 : b = b' <;> by_cases h2 : c = c' <;> by_cases h3 : d = d' <;> by_cases h4 : e = e' <;> by_cases h5 : f = f' <;> by_cases h6 : g = g' <;> simp [eqS, eqR, h0, h1, h2, h3, h4, h5, h6]
theorem neqS (a b c d e f g a' b' c' d' e' f' g' : Int) (w : World) : (binOp .neq 42 (.agg #[.int .i64 a, .int .i64 b, .int .i64 c, .int .i64 d, .int .i64 e, .int .i64 f, .int .i64 g]) (.agg #[.int .i64 a', .int .i64 b', .int .i64 c', .int .i64 d', .int .i64 e', .int .i64 f', .int .i64 g'])).run Try.prog w = .ok (.bool (!eqS (a, b, c, d, e, f, g) (a', b', c', d', e', f', g'))) w := by
  rw [run_neq_struct, runS]; rfl
theorem guardS (op : BinOp) (p q : Operand) (a b c d e f g a' b' c' d' e' f' g' : Int) (w : World) : (eqGuard op 42 p q (.agg #[.int .i64 a, .int .i64 b, .int .i64 c, .int .i64 d, .int .i64 e, .int .i64 f, .int .i64 g]) (.agg #[.int .i64 a', .int .i64 b', .int .i64 c', .int .i64 d', .int .i64 e', .int .i64 f', .int .i64 g'])).run Try.prog w = .ok () w :=
  run_eqGuard_agg w op _ p q _ _ (by kernel_rfl)
attribute [go_sem ↓] eqlR neqR guardR neqS guardS
end Go.Proofs.Ytigoemecphilkaa.Se
