/- Orders and levels in memory; the document's own small functions of layer 8. -/
import Derived.Test.YtmpkindlanadbaaRows
import Derived.Test.YtmpkindlanadbaaDa
import Derived.Test.YtmpkindlanadbaaLePure
import Derived.Test.YtmpkindlanadbaaFxPure
import Derived.Test.YtmpkindlanadbaaRf
import Derived.Lib.Hide
import Derived.Deep.QuietTactic
import Derived.StillTailTactics
namespace Go.Proofs.Ytmpkindlanadbaa.Le
open Go.RowKit
set_option linter.unusedVariables false
open Go.Proofs.Ytmpkindlanadbaa.Rw
open Go.Proofs.Ytmpkindlanadbaa.Da
theorem ret_bool {a b : Bool} (h : a = b) : Ending.returned (.bool a) = .returned (.bool b) := by rw [h]
theorem ret_int {k : IntKind} {a b : Int} (h : a = b) : Ending.returned (.int k a) = .returned (.int k b) := by rw [h]
theorem ret_v {a b : Value} (h : a = b) : Ending.returned a = .returned b := by rw [h]
def cellsO (o : Od) : List Value := [.int .i64 o.1, .int .i64 o.2.1, .int .i64 o.2.2.1, .int .i64 o.2.2.2.1, .int .i64 o.2.2.2.2]
def eO : Enc Od := Enc.flat 5 cellsO (fun _ => rfl) (fun o u hu => by simp [cellsO] at hu; rcases hu with rfl | rfl | rfl | rfl | rfl <;> rfl)
def eI : Enc Int := Enc.flat 1 (fun x => [.int .i64 x]) (fun _ => rfl) (fun o u hu => by simp at hu; subst hu; rfl)
def eOs : Enc (List Od) := Enc.slice eO 24
def eL : Enc Lv := Enc.both eI eOs
/-- A list of orders; a list of levels. -/
abbrev OL (B : Bs) (l : List Od) (v : Value) (w : World) : Prop := Is eO 24 B l v w
abbrev LL (B : Bs) (l : List Lv) (v : Value) (w : World) : Prop := Is eL 50 B l v w
theorem eL_cells {B : Bs} {v : Lv} {cs : List Value} {w : World} (h : eL.R B v cs w) : ∃ x, cs = [.int .i64 v.1, x] ∧ OL B v.2 x w := by
  obtain ⟨c, d, rfl, rfl, x, rfl, hx⟩ := h
  exact ⟨x, rfl, hx⟩
theorem eL_mk {B : Bs} {p : Int} {os : List Od} {x : Value} {w : World} (h : OL B os x w) : eL.R B (p, os) [.int .i64 p, x] w := ⟨[.int .i64 p], [x], rfl, rfl, x, rfl, h⟩
theorem typesL : 50 ∉ eL.ts := by decide
theorem typesO : 24 ∉ eO.ts := by decide
/-- The five cells of an order in a list. -/
theorem at5 {B : Bs} {l : List Od} {b off : Nat} {w : World} (h : Lies eO 24 B l b off w) (i : Nat) (hi : i < l.length) :
    w.cell? ⟨b, off + i * 5, none⟩ = some (.int .i64 l[i].1) ∧ w.cell? ⟨b, off + i * 5 + 1, none⟩ = some (.int .i64 l[i].2.1) ∧ w.cell? ⟨b, off + i * 5 + 2, none⟩ = some (.int .i64 l[i].2.2.1) ∧ w.cell? ⟨b, off + i * 5 + 3, none⟩ = some (.int .i64 l[i].2.2.2.1) ∧ w.cell? ⟨b, off + i * 5 + 4, none⟩ = some (.int .i64 l[i].2.2.2.2) := by
  obtain ⟨cs, rfl, hu⟩ := h.at i hi
  exact ⟨hu 0 _ rfl, hu 1 _ rfl, hu 2 _ rfl, hu 3 _ rfl, hu 4 _ rfl⟩
/-- The two cells of a level in a list. -/
theorem atL {B : Bs} {l : List Lv} {b off : Nat} {w : World} (h : Lies eL 50 B l b off w) (i : Nat) (hi : i < l.length) :
    ∃ x, w.cell? ⟨b, off + i * 2, none⟩ = some (.int .i64 l[i].1) ∧ w.cell? ⟨b, off + i * 2 + 1, none⟩ = some x ∧ OL B l[i].2 x w := by
  obtain ⟨cs, hc, hu⟩ := h.at i hi
  obtain ⟨x, rfl, hx⟩ := eL_cells hc
  exact ⟨x, hu 0 _ rfl, hu 1 _ rfl, hx⟩
theorem fieldsO : Try.prog.underlying 24 = some (.struct (Try.prog.fieldsOf 24)) := by kernel_rfl
def eqO (a b : Od) : Bool := decide (a = b)
theorem eqO_iff {a b : Od} : eqO a b = true ↔ a = b := by simp [eqO]
theorem runO (a b c d e a' b' c' d' e' : Int) (w : World) : (Op.equalIn 10000 24 (.agg #[.int .i64 a, .int .i64 b, .int .i64 c, .int .i64 d, .int .i64 e]) (.agg #[.int .i64 a', .int .i64 b', .int .i64 c', .int .i64 d', .int .i64 e'])).run Try.prog w = .ok (eqO (a, b, c, d, e) (a', b', c', d', e')) w := by
  rw [run_equalIn_agg w 9999 _ _ _ fieldsO (by kernel_rfl)]
  simp only [Program.fieldsOf, Try.underlying24]
  simp [Op.eqFields, go_sem]
  by_cases h1 : a = a' <;> by_cases h2 : b = b' <;> by_cases h3 : c = c' <;> by_cases h4 : d = d' <;> by_cases h5 : e = e' <;> simp [eqO, h1, h2, h3, h4, h5]
theorem eqlO (a b c d e a' b' c' d' e' : Int) (w : World) : (binOp .eql 24 (.agg #[.int .i64 a, .int .i64 b, .int .i64 c, .int .i64 d, .int .i64 e]) (.agg #[.int .i64 a', .int .i64 b', .int .i64 c', .int .i64 d', .int .i64 e'])).run Try.prog w = .ok (.bool (eqO (a, b, c, d, e) (a', b', c', d', e'))) w := by
  rw [run_eql_struct, runO]; rfl
theorem neqO (a b c d e a' b' c' d' e' : Int) (w : World) : (binOp .neq 24 (.agg #[.int .i64 a, .int .i64 b, .int .i64 c, .int .i64 d, .int .i64 e]) (.agg #[.int .i64 a', .int .i64 b', .int .i64 c', .int .i64 d', .int .i64 e'])).run Try.prog w = .ok (.bool (!eqO (a, b, c, d, e) (a', b', c', d', e'))) w := by
  rw [run_neq_struct, runO]; rfl
theorem guardO (op : BinOp) (p q : Operand) (a b c d e a' b' c' d' e' : Int) (w : World) : (eqGuard op 24 p q (.agg #[.int .i64 a, .int .i64 b, .int .i64 c, .int .i64 d, .int .i64 e]) (.agg #[.int .i64 a', .int .i64 b', .int .i64 c', .int .i64 d', .int .i64 e'])).run Try.prog w = .ok () w :=
  run_eqGuard_agg w op _ p q _ _ (by kernel_rfl)
attribute [go_sem ↓] eqlO neqO guardO
section
variable (ρ : Operand → Value) (dst : Option Tmp) (ty : TypeId) (pos : String) (after : Array Edge) (guard : Option (Nat × Bool)) (w : World)
theorem loadO (x : Operand) (h : (rowOf w (ρ x)).size = 5) : (execOp ρ { dst, op := .load 24 x, type := ty, pos, after, guard }).run Try.prog w = .ok (.value (.agg (rowOf w (ρ x)))) w :=
  exec_load (n := 4) ρ dst ty pos after guard w Try.underlying24 rfl (by kernel_rfl) x h
theorem storeO (p x : Operand) (h : plainAt 5 w (ρ p) = true) (hs : (ρ x).cells.size = 5) (h1 : oneAll (ρ x) = true) (ha : ρ x = .agg (ρ x).cells) : (execOp ρ { dst, op := .store 24 p x, type := ty, pos, after, guard }).run Try.prog w = .ok .skip (putRow w (ρ p) (ρ x).cells) :=
  exec_store (n := 4) ρ dst ty pos after guard w (by kernel_rfl) p x h hs h1 ha
end
theorem cells_agg (c : Array Value) : (Value.agg c).cells = c := rfl
theorem one5 (a b c d e : Int) : oneAll (.agg #[.int .i64 a, .int .i64 b, .int .i64 c, .int .i64 d, .int .i64 e]) = true := by simp [oneAll, Value.cells, Value.oneCell']
theorem size5 (a b c d e : Value) : (#[a, b, c, d, e] : Array Value).size = 5 := rfl
attribute [go_sem ↓] loadO storeO
attribute [go_sem] cells_agg one5 size5
theorem ret_O1 {fn : Func} {p : Tmp} (h : fn.results = #[.cell p 24]) (tmps : Array Value) (w : World) {cs : Array Value} (hs : cs.size = 5) (hr : rowOf w (tmps.getD p undef) = cs) : (results fn tmps).run Try.prog w = .ok (.agg cs) w :=
  ret1 (n := 4) h Try.underlying24 rfl (by kernel_rfl) tmps w hs hr
theorem ret_O2 {fn : Func} {p q : Tmp} (h : fn.results = #[.cell p 24, .tmp q]) (tmps : Array Value) (w : World) {cs : Array Value} (hs : cs.size = 5) (hr : rowOf w (tmps.getD p undef) = cs) : (results fn tmps).run Try.prog w = .ok (.tuple #[.agg cs, tmps.getD q undef]) w :=
  ret2 (n := 4) h Try.underlying24 rfl (by kernel_rfl) tmps w hs hr
theorem ret_OM {fn : Func} {p q r : Tmp} (h : fn.results = #[.tmp q, .cell p 24, .tmp r]) (tmps : Array Value) (w : World) {cs : Array Value} (hs : cs.size = 5) (hr : rowOf w (tmps.getD p undef) = cs) : (results fn tmps).run Try.prog w = .ok (.tuple #[tmps.getD q undef, .agg cs, tmps.getD r undef]) w :=
  retM (n := 4) h Try.underlying24 rfl (by kernel_rfl) tmps w hs hr
set_option maxHeartbeats 400000 in
theorem rAhead_any (s a b : Int) (w : World) : Calls Try.prog 33 #[.int .i64 s, .int .i64 a, .int .i64 b] w fun e w' => e = .returned (.bool (ahead s a b)) ∧ w = w' := by
  by_cases h : s = 1
  · have hd : (s == 1) = true := by simpa using h
    have H : Hid (ahead s a b = decide (b < a)) := Lib.hid (if_pos h)
    clear h
    go_enter Try.func33, Try.ntmps33
    go_wp2
    go_ret
    exact ⟨ret_bool H.out.symm, rfl⟩
  · have hd : (s == 1) = false := by simpa using h
    have H : Hid (ahead s a b = decide (a < b)) := Lib.hid (if_neg h)
    clear h
    go_enter Try.func33, Try.ntmps33
    go_wp2
    go_ret
    exact ⟨ret_bool H.out.symm, rfl⟩
theorem rAhead_is {s a b : Int} {r : Bool} (h : Hid (ahead s a b = r)) (w : World) : Calls Try.prog 33 #[.int .i64 s, .int .i64 a, .int .i64 b] w fun e w' => e = .returned (.bool r) ∧ w = w' := by
  rw [← h.out]; exact rAhead_any s a b w
end Go.Proofs.Ytmpkindlanadbaa.Le
