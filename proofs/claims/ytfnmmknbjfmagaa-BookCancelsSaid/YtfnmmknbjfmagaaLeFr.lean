/- Orders and levels in memory; the document's own small functions of layer 8. -/
import Derived.Test.YtfnmmknbjfmagaaRows
import Derived.Test.YtfnmmknbjfmagaaRo
import Derived.Test.YtfnmmknbjfmagaaBkLaw
import Derived.Test.YtfnmmknbjfmagaaRh
import Derived.Lib.Hide
import Derived.Deep.QuietTactic
import Derived.StillTailTactics
import Derived.Deep.Slices
import Derived.Deep.Fields
import Derived.ChangeSame
import Derived.OpenShut
namespace Go.Proofs.Ytfnmmknbjfmagaa.Le
open Go.RowKit
set_option linter.unusedVariables false
open Go.Proofs.Ytfnmmknbjfmagaa.Rw
open Go.Proofs.Ytfnmmknbjfmagaa.Da
theorem ret_bool {a b : Bool} (h : a = b) : Ending.returned (.bool a) = .returned (.bool b) := by rw [h]
theorem ret_int {k : IntKind} {a b : Int} (h : a = b) : Ending.returned (.int k a) = .returned (.int k b) := by rw [h]
theorem ret_v {a b : Value} (h : a = b) : Ending.returned a = .returned b := by rw [h]
def cellsO (o : Od) : List Value := [.int .i64 o.1, .int .i64 o.2.1, .int .i64 o.2.2.1, .int .i64 o.2.2.2.1, .int .i64 o.2.2.2.2]
def eO : Enc Od := Enc.flat 5 cellsO (fun _ => rfl) (fun o u hu => by simp [cellsO] at hu; rcases hu with rfl | rfl | rfl | rfl | rfl <;> rfl)
def eI : Enc Int := Enc.flat 1 (fun x => [.int .i64 x]) (fun _ => rfl) (fun o u hu => by simp at hu; subst hu; rfl)
def eOs : Enc (List Od) := Enc.slice eO 31
def eL : Enc Lv := Enc.both eI eOs
/-- A list of orders; a list of levels. -/
abbrev OL (B : Bs) (l : List Od) (v : Value) (w : World) : Prop := Is eO 31 B l v w
abbrev LL (B : Bs) (l : List Lv) (v : Value) (w : World) : Prop := Is eL 48 B l v w
theorem eL_cells {B : Bs} {v : Lv} {cs : List Value} {w : World} (h : eL.R B v cs w) : ∃ x, cs = [.int .i64 v.1, x] ∧ OL B v.2 x w := by
  obtain ⟨c, d, rfl, rfl, x, rfl, hx⟩ := h
  exact ⟨x, rfl, hx⟩
theorem eL_mk {B : Bs} {p : Int} {os : List Od} {x : Value} {w : World} (h : OL B os x w) : eL.R B (p, os) [.int .i64 p, x] w := ⟨[.int .i64 p], [x], rfl, rfl, x, rfl, h⟩
theorem typesL : 48 ∉ eL.ts := by decide
theorem typesO : 31 ∉ eO.ts := by decide
/-- The five cells of an order in a list. -/
theorem at5 {B : Bs} {l : List Od} {b off : Nat} {w : World} (h : Lies eO 31 B l b off w) (i : Nat) (hi : i < l.length) :
    w.cell? ⟨b, off + i * 5, none⟩ = some (.int .i64 l[i].1) ∧ w.cell? ⟨b, off + i * 5 + 1, none⟩ = some (.int .i64 l[i].2.1) ∧ w.cell? ⟨b, off + i * 5 + 2, none⟩ = some (.int .i64 l[i].2.2.1) ∧ w.cell? ⟨b, off + i * 5 + 3, none⟩ = some (.int .i64 l[i].2.2.2.1) ∧ w.cell? ⟨b, off + i * 5 + 4, none⟩ = some (.int .i64 l[i].2.2.2.2) := by
  obtain ⟨cs, rfl, hu⟩ := h.at i hi
  exact ⟨hu 0 _ rfl, hu 1 _ rfl, hu 2 _ rfl, hu 3 _ rfl, hu 4 _ rfl⟩
/-- The two cells of a level in a list. -/
theorem atL {B : Bs} {l : List Lv} {b off : Nat} {w : World} (h : Lies eL 48 B l b off w) (i : Nat) (hi : i < l.length) :
    ∃ x, w.cell? ⟨b, off + i * 2, none⟩ = some (.int .i64 l[i].1) ∧ w.cell? ⟨b, off + i * 2 + 1, none⟩ = some x ∧ OL B l[i].2 x w := by
  obtain ⟨cs, hc, hu⟩ := h.at i hi
  obtain ⟨x, rfl, hx⟩ := eL_cells hc
  exact ⟨x, hu 0 _ rfl, hu 1 _ rfl, hx⟩
theorem fieldsO : Try.prog.underlying 31 = some (.struct (Try.prog.fieldsOf 31)) := by kernel_rfl
def eqO (a b : Od) : Bool := decide (a = b)
theorem eqO_iff {a b : Od} : eqO a b = true ↔ a = b := by simp [eqO]
theorem runO (a b c d e a' b' c' d' e' : Int) (w : World) : (Op.equalIn 10000 31 (.agg #[.int .i64 a, .int .i64 b, .int .i64 c, .int .i64 d, .int .i64 e]) (.agg #[.int .i64 a', .int .i64 b', .int .i64 c', .int .i64 d', .int .i64 e'])).run Try.prog w = .ok (eqO (a, b, c, d, e) (a', b', c', d', e')) w := by
  rw [run_equalIn_agg w 9999 _ _ _ fieldsO (by kernel_rfl)]
  simp only [Program.fieldsOf, Try.underlying31]
  simp [Op.eqFields, go_sem]
  by_cases h1 : a = a' <;> by_cases h2 : b = b' <;> by_cases h3 : c = c' <;> by_cases h4 : d = d' <;> by_cases h5 : e = e' <;> simp [eqO, h1, h2, h3, h4, h5]
theorem eqlO (a b c d e a' b' c' d' e' : Int) (w : World) : (binOp .eql 31 (.agg #[.int .i64 a, .int .i64 b, .int .i64 c, .int .i64 d, .int .i64 e]) (.agg #[.int .i64 a', .int .i64 b', .int .i64 c', .int .i64 d', .int .i64 e'])).run Try.prog w = .ok (.bool (eqO (a, b, c, d, e) (a', b', c', d', e'))) w := by
  rw [run_eql_struct, runO]; rfl
theorem neqO (a b c d e a' b' c' d' e' : Int) (w : World) : (binOp .neq 31 (.agg #[.int .i64 a, .int .i64 b, .int .i64 c, .int .i64 d, .int .i64 e]) (.agg #[.int .i64 a', .int .i64 b', .int .i64 c', .int .i64 d', .int .i64 e'])).run Try.prog w = .ok (.bool (!eqO (a, b, c, d, e) (a', b', c', d', e'))) w := by
  rw [run_neq_struct, runO]; rfl
theorem guardO (op : BinOp) (p q : Operand) (a b c d e a' b' c' d' e' : Int) (w : World) : (eqGuard op 31 p q (.agg #[.int .i64 a, .int .i64 b, .int .i64 c, .int .i64 d, .int .i64 e]) (.agg #[.int .i64 a', .int .i64 b', .int .i64 c', .int .i64 d', .int .i64 e'])).run Try.prog w = .ok () w :=
  run_eqGuard_agg w op _ p q _ _ (by kernel_rfl)
attribute [go_sem ↓] eqlO neqO guardO
section
variable (ρ : Operand → Value) (dst : Option Tmp) (ty : TypeId) (pos : String) (after : Array Edge) (guard : Option (Nat × Bool)) (w : World)
theorem loadO (x : Operand) (h : (rowOf w (ρ x)).size = 5) : (execOp ρ { dst, op := .load 31 x, type := ty, pos, after, guard }).run Try.prog w = .ok (.value (.agg (rowOf w (ρ x)))) w :=
  exec_load (n := 4) ρ dst ty pos after guard w Try.underlying31 rfl (by kernel_rfl) x h
theorem storeO (p x : Operand) (h : plainAt 5 w (ρ p) = true) (hs : (ρ x).cells.size = 5) (h1 : oneAll (ρ x) = true) (ha : ρ x = .agg (ρ x).cells) : (execOp ρ { dst, op := .store 31 p x, type := ty, pos, after, guard }).run Try.prog w = .ok .skip (putRow w (ρ p) (ρ x).cells) :=
  exec_store (n := 4) ρ dst ty pos after guard w (by kernel_rfl) p x h hs h1 ha
end
theorem cells_agg (c : Array Value) : (Value.agg c).cells = c := rfl
theorem one5 (a b c d e : Int) : oneAll (.agg #[.int .i64 a, .int .i64 b, .int .i64 c, .int .i64 d, .int .i64 e]) = true := by simp [oneAll, Value.cells, Value.oneCell']
theorem size5 (a b c d e : Value) : (#[a, b, c, d, e] : Array Value).size = 5 := rfl
attribute [go_sem ↓] loadO storeO
attribute [go_sem] cells_agg one5 size5
theorem ret_O1 {fn : Func} {p : Tmp} (h : fn.results = #[.cell p 31]) (tmps : Array Value) (w : World) {cs : Array Value} (hs : cs.size = 5) (hr : rowOf w (tmps.getD p undef) = cs) : (results fn tmps).run Try.prog w = .ok (.agg cs) w :=
  ret1 (n := 4) h Try.underlying31 rfl (by kernel_rfl) tmps w hs hr
theorem ret_O2 {fn : Func} {p q : Tmp} (h : fn.results = #[.cell p 31, .tmp q]) (tmps : Array Value) (w : World) {cs : Array Value} (hs : cs.size = 5) (hr : rowOf w (tmps.getD p undef) = cs) : (results fn tmps).run Try.prog w = .ok (.tuple #[.agg cs, tmps.getD q undef]) w :=
  ret2 (n := 4) h Try.underlying31 rfl (by kernel_rfl) tmps w hs hr
theorem ret_OM {fn : Func} {p q r : Tmp} (h : fn.results = #[.tmp q, .cell p 31, .tmp r]) (tmps : Array Value) (w : World) {cs : Array Value} (hs : cs.size = 5) (hr : rowOf w (tmps.getD p undef) = cs) : (results fn tmps).run Try.prog w = .ok (.tuple #[tmps.getD q undef, .agg cs, tmps.getD r undef]) w :=
  retM (n := 4) h Try.underlying31 rfl (by kernel_rfl) tmps w hs hr
set_option maxHeartbeats 400000 in
theorem rAhead_any (s a b : Int) (w : World) : Calls Try.prog 68 #[.int .i64 s, .int .i64 a, .int .i64 b] w fun e w' => e = .returned (.bool (ahead s a b)) ∧ w = w' := by
  by_cases h : s = 1
  · have hd : (s == 1) = true := by simpa using h
    have H : Hid (ahead s a b = decide (b < a)) := Lib.hid (if_pos h)
    clear h
    go_enter Try.func68, Try.ntmps68
    go_wp2
    go_ret
    exact ⟨ret_bool H.out.symm, rfl⟩
  · have hd : (s == 1) = false := by simpa using h
    have H : Hid (ahead s a b = decide (a < b)) := Lib.hid (if_neg h)
    clear h
    go_enter Try.func68, Try.ntmps68
    go_wp2
    go_ret
    exact ⟨ret_bool H.out.symm, rfl⟩
theorem rAhead_is {s a b : Int} {r : Bool} (h : Hid (ahead s a b = r)) (w : World) : Calls Try.prog 68 #[.int .i64 s, .int .i64 a, .int .i64 b] w fun e w' => e = .returned (.bool r) ∧ w = w' := by
  rw [← h.out]; exact rAhead_any s a b w
end Go.Proofs.Ytfnmmknbjfmagaa.Le
/- The document's own: which orders may rest, Count, Find, Best. -/
namespace Go.Proofs.Ytfnmmknbjfmagaa.Le
open Go.RowKit
set_option linter.unusedVariables false
open Go.Proofs.Ytfnmmknbjfmagaa.Rw
open Go.Proofs.Ytfnmmknbjfmagaa.Da
theorem omay_no {o : Od} {s : Int} (h : ¬ (1 ≤ o.1 ∧ o.1 ≤ 1073741824 ∧ 0 ≤ o.2.1 ∧ o.2.1 < 64 ∧ o.2.2.1 = s ∧ 1 ≤ o.2.2.2.1 ∧ o.2.2.2.1 ≤ 1048576 ∧ 1 ≤ o.2.2.2.2 ∧ o.2.2.2.2 ≤ 1048576)) : omay o s = false := by
  unfold omay; exact decide_eq_false h
set_option maxHeartbeats 1000000 in
theorem rOmay_any (a b c d e s : Int) (w : World) : Calls Try.prog 66 #[.agg #[.int .i64 a, .int .i64 b, .int .i64 c, .int .i64 d, .int .i64 e], .int .i64 s] w fun r w' => r = .returned (.bool (omay (a, b, c, d, e) s)) ∧ Below w.heap.size w w' := by
  obtain ⟨q, hq⟩ : ∃ q, omay (a, b, c, d, e) s = q := ⟨_, rfl⟩
  rw [hq]
  have H := Lib.hid hq
  clear hq
  go_enter Try.func66, Try.ntmps66
  go_wp2
  all_goals
    go_ret
    exact ⟨ret_bool (by rw [← H.out]; unfold omay; rw [Bool.eq_iff_iff]; simp; try omega), below1 _ _⟩
theorem rOmay_is {a b c d e s : Int} {r : Bool} (h : Hid (omay (a, b, c, d, e) s = r)) (w : World) : Calls Try.prog 66 #[.agg #[.int .i64 a, .int .i64 b, .int .i64 c, .int .i64 d, .int .i64 e], .int .i64 s] w fun x w' => x = .returned (.bool r) ∧ Below w.heap.size w w' := by
  rw [← h.out]; exact rOmay_any a b c d e s w
theorem count_take {l : List Lv} {k : Nat} (h : k < l.length) : (flat (l.take (k + 1))).length = (flat (l.take k)).length + l[k].2.length := by
  rw [take_snoc h, flat_app, List.length_append, flat_cons, flat_nil, List.append_nil]
theorem flat_take_le (l : List Lv) (k : Nat) : (flat (l.take k)).length ≤ (flat l).length := by
  conv => rhs; rw [← List.take_append_drop k l]
  rw [flat_app, List.length_append]; omega
set_option maxHeartbeats 800000 in
theorem rCount_any (B : Bs) (l : List Lv) (v : Value) (w : World) (h : LL B l v w) (hm : l.length ≤ 1000000) (hf : (flat l).length ≤ 1000000) :
    Calls Try.prog 39 #[v] w fun e w' => e = .returned (.int .i64 ((flat l).length : Nat)) ∧ Below w.heap.size w w' := by
  rcases h.cases with ⟨rfl, a, c, rfl⟩ | ⟨hne, b, off, c, rfl, hat⟩
  · clear h
    go_enter Try.func39, Try.ntmps39
    go_wp2
    go_loopw [3, 8] (fun t i wr => i = .int .i64 0 ∧ t = .int .i64 0 ∧ Below w.heap.size w wr) (fun _ i _ => 0)
    case atStart => exact ⟨rfl, rfl, Below.refl _ _⟩
    case round =>
      obtain ⟨rfl, rfl, hb⟩ := hrel
      go_wp2
      go_ret
      exact ⟨rfl, hb⟩
  · have hbb : b < w.heap.size := hat.1
    have HA := Lib.hid hat
    have HF := Lib.hid hf
    obtain ⟨n, hn⟩ : ∃ n, n = l.length := ⟨_, rfl⟩
    rw [← hn] at hm ⊢
    have HN := Lib.hid hn
    clear h hat hn hne hf
    go_enter Try.func39, Try.ntmps39
    go_wp2
    go_loopw [3, 8] (fun t i wr => ∃ k : Nat, k ≤ n ∧ i = .int .i64 k ∧ t = .int .i64 ((flat (l.take k)).length : Nat) ∧ Below w.heap.size w wr) (fun _ i _ => n - (intOf i).toNat)
    case atStart => exact ⟨0, Nat.zero_le _, rfl, rfl, Below.refl _ _⟩
    case round =>
      obtain ⟨k, hk, rfl, rfl, hb⟩ := hrel
      by_cases hlt : k < n
      · have hlt2 : (k : Int) < n := by omega
        have hkl : k < l.length := by rw [← HN.out]; exact hlt
        obtain ⟨x, q0, q1, hx⟩ := atL HA.out k hkl
        obtain ⟨a, cc, rfl⟩ := hx.len
        have ht := count_take hkl
        have hle := flat_take_le l (k + 1)
        obtain ⟨m, hmm⟩ : ∃ m, l[k].2.length = m := ⟨_, rfl⟩
        rw [hmm] at ht q1
        have hs : (flat (l.take k)).length + m ≤ 1000000 := by have := HF.out; omega
        have HT := Lib.hid ht
        obtain ⟨c1, f1, r1, p1⟩ := bcell hb
        clear ht hle hmm hx
        go_wp2
        go_roundw
        case rel => exact ⟨k + 1, by omega, by go_num, by rw [HT.out]; go_num, nx hb (below1 _ _)⟩
        case measure => simp [intOf]; omega
      · obtain rfl : k = n := by omega
        have HZ : Hid ((flat (l.take k)).length = (flat l).length) := Lib.hid (by rw [HN.out, List.take_length])
        go_wp2
        go_ret
        exact ⟨ret_int (by rw [HZ.out]), hb⟩
end Go.Proofs.Ytfnmmknbjfmagaa.Le
/- The document's own: Find, Best. -/
namespace Go.Proofs.Ytfnmmknbjfmagaa.Le
open Go.RowKit
set_option linter.unusedVariables false
open Go.Proofs.Ytfnmmknbjfmagaa.Rw
open Go.Proofs.Ytfnmmknbjfmagaa.Da
/-- An order and true, or the zero order and false. -/
def fV : Option Od → Value
  | some o => .tuple #[.agg #[.int .i64 o.1, .int .i64 o.2.1, .int .i64 o.2.2.1, .int .i64 o.2.2.2.1, .int .i64 o.2.2.2.2], .bool true]
  | none => .tuple #[.agg #[.int .i64 0, .int .i64 0, .int .i64 0, .int .i64 0, .int .i64 0], .bool false]
theorem drop_cons {α : Type} {l : List α} {k : Nat} (h : k < l.length) : l.drop k = l[k] :: l.drop (k + 1) := List.drop_eq_getElem_cons h
theorem flat_drop {l : List Lv} {k : Nat} (h : k < l.length) : flat (l.drop k) = l[k].2 ++ flat (l.drop (k + 1)) := by rw [drop_cons h, flat_cons]
theorem fnd_drop {l m : List Od} {k : Nat} (h : k < l.length) (id : Int) : fnd (l.drop k ++ m) id = if l[k].1 = id then some l[k] else fnd (l.drop (k + 1) ++ m) id := by
  rw [drop_cons h, List.cons_append]
  unfold fnd
  rw [List.find?_cons]
  by_cases e : l[k].1 = id
  · rw [if_pos e]; simp [hasId, e]
  · rw [if_neg e]
    have : hasId id l[k] = false := by simpa [hasId] using e
    rw [this]
theorem zero5 (w : World) : (zeroValue 31).run Try.prog w = .ok (.agg #[.int .i64 0, .int .i64 0, .int .i64 0, .int .i64 0, .int .i64 0]) w := by kernel_rfl
set_option maxHeartbeats 2000000 in
theorem rFind_any (B : Bs) (l : List Lv) (v : Value) (id : Int) (w : World) (h : LL B l v w) (hm : l.length ≤ 1000000) (hf : (flat l).length ≤ 1000000) :
    Calls Try.prog 29 #[v, .int .i64 id] w fun e w' => e = .returned (fV (fnd (flat l) id)) ∧ Below w.heap.size w w' := by
  rcases h.cases with ⟨rfl, a, c, rfl⟩ | ⟨hne, b, off, c, rfl, hat⟩
  · clear h
    go_enter Try.func29, Try.ntmps29
    go_wp2
    go_loopw [12] (fun i wr => i = .int .i64 0 ∧ wr = w.alloc (.cells #[.int .i64 0, .int .i64 0, .int .i64 0, .int .i64 0, .int .i64 0] 31)) (fun i _ => 0)
    case atStart => exact ⟨rfl, rfl⟩
    case round =>
      obtain ⟨rfl, rfl⟩ := hrel
      go_wp2
      exact bodyPost_ret (v := fV none) (by simp [results, Try.results29, go_sem, fV]) rfl ⟨rfl, (below1 _ _)⟩
  · have hbb : b < w.heap.size := hat.1
    have HA := Lib.hid hat
    have HF := Lib.hid hf
    obtain ⟨n, hn⟩ : ∃ n, n = l.length := ⟨_, rfl⟩
    obtain ⟨r, hr⟩ : ∃ r, fnd (flat l) id = r := ⟨_, rfl⟩
    rw [← hn] at hm ⊢
    rw [hr]
    have HN := Lib.hid hn
    have HR := Lib.hid hr
    clear h hat hn hne hf hr
    go_enter Try.func29, Try.ntmps29
    go_wp2
    obtain ⟨W, hW⟩ : ∃ W, W = w.alloc (.cells #[.int .i64 0, .int .i64 0, .int .i64 0, .int .i64 0, .int .i64 0] 31) := ⟨_, rfl⟩
    have hbW : Below w.heap.size w W := hW ▸ below1 w _
    have hz : w.heap.size < W.heap.size := by rw [hW]; simp
    have hbz : b < W.heap.size := by omega
    have hpz : plain 5 W w.heap.size = true := by rw [hW]; simp [go_sem]
    have HW := Lib.hid (Lies.keep eL 48 HA.out (Keeps.of_below hbW))
    rw [← hW]
    clear hW HA
    have HPz := Lib.hid hpz
    clear hpz
    go_loopw [12] (fun i wr => ∃ k : Nat, k ≤ n ∧ i = .int .i64 k ∧ Below W.heap.size W wr ∧ fnd (flat (l.drop k)) id = r) (fun i _ => n - (intOf i).toNat)
    case atStart => exact ⟨0, Nat.zero_le _, rfl, Below.refl _ _, HR.out⟩
    case round =>
      obtain ⟨wo, rfl⟩ : ∃ wo : World, wo = wr := ⟨_, rfl⟩
      obtain ⟨k, hk, rfl, hb, hrest⟩ := hrel
      have HT := Lib.hid hrest
      clear hrest
      by_cases hlt : k < n
      · have hlt2 : (k : Int) < n := by omega
        have hkl : k < l.length := by rw [← HN.out]; exact hlt
        obtain ⟨x, q0, q1, hx⟩ := atL HW.out k hkl
        have hx2 := Is.stays eO 31 hx hb
        obtain ⟨c1, f1, r1, p1⟩ := bcell hb
        have hfl := flat_drop hkl
        obtain ⟨⟨pr, os⟩, hlk⟩ : ∃ y, l[k] = y := ⟨_, rfl⟩
        rw [hlk] at q0 hx2 hfl
        simp only at q0 hx2 hfl
        have hos : os.length ≤ 1000000 := by
          have h1 := flat_take_le l (k + 1)
          have h2 := count_take hkl
          rw [hlk] at h2
          simp only at h2
          have := HF.out
          omega
        have HFl : Hid (fnd (os ++ flat (l.drop (k + 1))) id = r) := Lib.hid (by rw [← hfl]; exact HT.out)
        obtain ⟨a2, c2, rfl, hel⟩ := hx2
        have HE := Lib.hid hel
        obtain ⟨m, hmm⟩ : ∃ m, m = os.length := ⟨_, rfl⟩
        rw [← hmm] at hos q1
        have HMm := Lib.hid hmm
        clear hfl hlk hx hel hmm
        go_wp2
        obtain ⟨V, hV⟩ : ∃ V, V = wo.alloc (.cells #[.int .i64 pr, .slice a2 m c2] 48) := ⟨_, rfl⟩
        have hbV : Below wo.heap.size wo V := hV ▸ below1 wo _
        rw [← hV]
        clear hV c1 f1 r1 p1 q0 q1
        go_loopw [19] (fun i wr => ∃ j : Nat, j ≤ m ∧ i = .int .i64 j ∧ Below V.heap.size V wr ∧ fnd (os.drop j ++ flat (l.drop (k + 1))) id = r) (fun i _ => m - (intOf i).toNat)
        case atStart => exact ⟨0, Nat.zero_le _, rfl, Below.refl _ _, HFl.out⟩
        case round =>
          obtain ⟨j, hj, rfl, hbi, hrj⟩ := hrel
          have hbw := nx hb (nx hbV hbi)
          by_cases hjm : j < m
          · have hjm2 : (j : Int) < m := by omega
            have hjo : j < os.length := by rw [← HMm.out]; exact hjm
            rcases HE.out with ⟨e, _⟩ | ⟨b2, off2, rfl, hat2⟩
            · rw [e] at hjo; cases hjo
            · have hk := nx hbV hbi
              have hat3 := Lies.keep eO 31 hat2 (Keeps.of_below hk)
              have hc5 := at5 hat3 j hjo
              have hb2 := hat3.1
              have hfd := fnd_drop (m := flat (l.drop (k + 1))) hjo id
              obtain ⟨⟨o1, o2, o3, o4, o5⟩, ho⟩ : ∃ o, os[j] = o := ⟨_, rfl⟩
              rw [ho] at hc5 hfd
              simp only at hc5 hfd
              obtain ⟨s0, s1, s2, s3, s4⟩ := hc5
              rw [hfd] at hrj
              by_cases he : o1 = id
              · have hd : (o1 == id) = true := by simpa using he
                have HZ : Hid (r = some (o1, o2, o3, o4, o5)) := Lib.hid (by rw [← hrj, if_pos he])
                have hz2 : w.heap.size < wr.heap.size := by have := hbw.size; omega
                have hpi : plain 5 wr w.heap.size = true := by rw [(bcell hbw).2.2.2 _ _ hz]; exact HPz.out
                clear hrj hfd ho hat2 hat3 he
                go_wp2
                refine bodyPost_ret (v := fV (some (o1, o2, o3, o4, o5))) (ret_O2 Try.results29 _ _ rfl ?c1) rfl ⟨by rw [HZ.out], ?c2⟩
                case c1 => exact (row_past _ _ _ (by rw [setRow_size]; exact hz2)).trans (row_set _ hpi)
                case c2 => exact (below_setRow (nx hbW hbw) (Nat.le_refl _) _).alloc (by rw [setRow_size]; omega) _
              · have hd : (o1 == id) = false := by simpa using he
                have HRj : Hid (fnd (os.drop (j + 1) ++ flat (l.drop (k + 1))) id = r) := Lib.hid (by rw [← hrj, if_neg he])
                clear hrj hfd ho hat2 hat3 he
                go_wp2
                go_roundw
                case rel => exact ⟨j + 1, by omega, by go_num, nx hbi (below1 _ _), HRj.out⟩
                case measure => simp [intOf]; omega
          · obtain rfl : j = m := by omega
            have HRk : Hid (fnd (flat (l.drop (k + 1))) id = r) := Lib.hid (by rw [← hrj, HMm.out, List.drop_length]; rfl)
            clear hrj
            go_wp2
            go_roundw
            case rel => exact ⟨k + 1, by omega, by go_num, hbw, HRk.out⟩
            case measure => simp [intOf]; omega
      · obtain rfl : k = n := by omega
        have HZ : Hid (r = none) := Lib.hid (by rw [← HT.out, HN.out, List.drop_length]; rfl)
        have hz2 : w.heap.size < wo.heap.size := by have := hb.size; omega
        have hpr : plain 5 wo w.heap.size = true := by rw [(bcell hb).2.2.2 _ _ hz]; exact HPz.out
        go_wp2
        refine bodyPost_ret (v := fV none) (ret_O2 Try.results29 _ _ rfl ?c3) rfl ⟨by rw [HZ.out], ?c4⟩
        case c3 => exact row_set _ hpr
        case c4 => exact below_setRow (nx hbW hb) (Nat.le_refl _) _
set_option maxHeartbeats 2000000 in
theorem rBest_any (B : Bs) (l : List Lv) (v : Value) (w : World) (h : LL B l v w) (hm : l.length ≤ 1000000) (hf : (flat l).length ≤ 1000000) :
    Calls Try.prog 44 #[v] w fun e w' => e = .returned (fV ((flat l).head?)) ∧ Below w.heap.size w w' := by
  rcases h.cases with ⟨rfl, a, c, rfl⟩ | ⟨hne, b, off, c, rfl, hat⟩
  · clear h
    go_enter Try.func44, Try.ntmps44
    go_wp2
    go_loopw [10] (fun i wr => i = .int .i64 0 ∧ wr = w.alloc (.cells #[.int .i64 0, .int .i64 0, .int .i64 0, .int .i64 0, .int .i64 0] 31)) (fun i _ => 0)
    case atStart => exact ⟨rfl, rfl⟩
    case round =>
      obtain ⟨rfl, rfl⟩ := hrel
      go_wp2
      exact bodyPost_ret (v := fV none) (by simp [results, Try.results44, go_sem, fV]) rfl ⟨rfl, (below1 _ _)⟩
  · have hbb : b < w.heap.size := hat.1
    have HA := Lib.hid hat
    have HF := Lib.hid hf
    obtain ⟨n, hn⟩ : ∃ n, n = l.length := ⟨_, rfl⟩
    obtain ⟨r, hr⟩ : ∃ r, (flat l).head? = r := ⟨_, rfl⟩
    rw [← hn] at hm ⊢
    rw [hr]
    have HN := Lib.hid hn
    have HR := Lib.hid hr
    clear h hat hn hne hf hr
    go_enter Try.func44, Try.ntmps44
    go_wp2
    obtain ⟨W, hW⟩ : ∃ W, W = w.alloc (.cells #[.int .i64 0, .int .i64 0, .int .i64 0, .int .i64 0, .int .i64 0] 31) := ⟨_, rfl⟩
    have hbW : Below w.heap.size w W := hW ▸ below1 w _
    have hz : w.heap.size < W.heap.size := by rw [hW]; simp
    have hbz : b < W.heap.size := by omega
    have hpz : plain 5 W w.heap.size = true := by rw [hW]; simp [go_sem]
    have HW := Lib.hid (Lies.keep eL 48 HA.out (Keeps.of_below hbW))
    rw [← hW]
    clear hW HA
    have HPz := Lib.hid hpz
    clear hpz
    go_loopw [10] (fun i wr => ∃ k : Nat, k ≤ n ∧ i = .int .i64 k ∧ Below W.heap.size W wr ∧ (flat (l.drop k)).head? = r) (fun i _ => n - (intOf i).toNat)
    case atStart => exact ⟨0, Nat.zero_le _, rfl, Below.refl _ _, HR.out⟩
    case round =>
      obtain ⟨wo, rfl⟩ : ∃ wo : World, wo = wr := ⟨_, rfl⟩
      obtain ⟨k, hk, rfl, hb, hrest⟩ := hrel
      have HT := Lib.hid hrest
      clear hrest
      by_cases hlt : k < n
      · have hlt2 : (k : Int) < n := by omega
        have hkl : k < l.length := by rw [← HN.out]; exact hlt
        obtain ⟨x, q0, q1, hx⟩ := atL HW.out k hkl
        have hx2 := Is.stays eO 31 hx hb
        obtain ⟨c1, f1, r1, p1⟩ := bcell hb
        have hfl := flat_drop hkl
        obtain ⟨⟨pr, os⟩, hlk⟩ : ∃ y, l[k] = y := ⟨_, rfl⟩
        rw [hlk] at q0 hx2 hfl
        simp only at q0 hx2 hfl
        have hos : os.length ≤ 1000000 := by
          have h1 := flat_take_le l (k + 1)
          have h2 := count_take hkl
          rw [hlk] at h2
          simp only at h2
          have := HF.out
          omega
        have HFl : Hid ((os ++ flat (l.drop (k + 1))).head? = r) := Lib.hid (by rw [← hfl]; exact HT.out)
        obtain ⟨a2, c2, rfl, hel⟩ := hx2
        have HE := Lib.hid hel
        obtain ⟨m, hmm⟩ : ∃ m, m = os.length := ⟨_, rfl⟩
        rw [← hmm] at hos q1
        have HMm := Lib.hid hmm
        clear hfl hlk hx hel hmm
        go_wp2
        obtain ⟨V, hV⟩ : ∃ V, V = wo.alloc (.cells #[.int .i64 pr, .slice a2 m c2] 48) := ⟨_, rfl⟩
        have hbV : Below wo.heap.size wo V := hV ▸ below1 wo _
        rw [← hV]
        clear hV c1 f1 r1 p1 q0 q1
        go_loopw [17] (fun i wr => ∃ j : Nat, j ≤ m ∧ i = .int .i64 j ∧ Below V.heap.size V wr ∧ (os.drop j ++ flat (l.drop (k + 1))).head? = r) (fun i _ => m - (intOf i).toNat)
        case atStart => exact ⟨0, Nat.zero_le _, rfl, Below.refl _ _, HFl.out⟩
        case round =>
          obtain ⟨j, hj, rfl, hbi, hrj⟩ := hrel
          have hbw := nx hb (nx hbV hbi)
          by_cases hjm : j < m
          · have hjm2 : (j : Int) < m := by omega
            have hjo : j < os.length := by rw [← HMm.out]; exact hjm
            rcases HE.out with ⟨e, _⟩ | ⟨b2, off2, rfl, hat2⟩
            · rw [e] at hjo; cases hjo
            · have hk := nx hbV hbi
              have hat3 := Lies.keep eO 31 hat2 (Keeps.of_below hk)
              have hc5 := at5 hat3 j hjo
              have hb2 := hat3.1
              obtain ⟨⟨o1, o2, o3, o4, o5⟩, ho⟩ : ∃ o, os[j] = o := ⟨_, rfl⟩
              rw [drop_cons hjo, ho, List.cons_append, List.head?_cons] at hrj
              rw [ho] at hc5
              simp only at hc5
              obtain ⟨s0, s1, s2, s3, s4⟩ := hc5
              have HZ : Hid (r = some (o1, o2, o3, o4, o5)) := Lib.hid hrj.symm
              have hz2 : w.heap.size < wr.heap.size := by have := hbw.size; omega
              have hpi : plain 5 wr w.heap.size = true := by rw [(bcell hbw).2.2.2 _ _ hz]; exact HPz.out
              clear hrj ho hat2 hat3
              go_wp2
              refine bodyPost_ret (v := fV (some (o1, o2, o3, o4, o5))) (ret_O2 Try.results44 _ _ rfl ?c1) rfl ⟨by rw [HZ.out], ?c2⟩
              case c1 => exact (row_past _ _ _ (by rw [setRow_size]; exact hz2)).trans (row_set _ hpi)
              case c2 => exact (below_setRow (nx hbW hbw) (Nat.le_refl _) _).alloc (by rw [setRow_size]; omega) _
          · obtain rfl : j = m := by omega
            have HRk : Hid ((flat (l.drop (k + 1))).head? = r) := Lib.hid (by rw [← hrj, HMm.out, List.drop_length]; rfl)
            clear hrj
            go_wp2
            go_roundw
            case rel => exact ⟨k + 1, by omega, by go_num, hbw, HRk.out⟩
            case measure => simp [intOf]; omega
      · obtain rfl : k = n := by omega
        have HZ : Hid (r = none) := Lib.hid (by rw [← HT.out, HN.out, List.drop_length]; rfl)
        have hz2 : w.heap.size < wo.heap.size := by have := hb.size; omega
        have hpr : plain 5 wo w.heap.size = true := by rw [(bcell hb).2.2.2 _ _ hz]; exact HPz.out
        go_wp2
        refine bodyPost_ret (v := fV none) (ret_O2 Try.results44 _ _ rfl ?c3) rfl ⟨by rw [HZ.out], ?c4⟩
        case c3 => exact row_set _ hpr
        case c4 => exact below_setRow (nx hbW hb) (Nat.le_refl _) _
end Go.Proofs.Ytfnmmknbjfmagaa.Le
/- The document's own: Orders, own. -/
namespace Go.Proofs.Ytfnmmknbjfmagaa.Le
open Go.RowKit
set_option linter.unusedVariables false
open Go.Proofs.Ytfnmmknbjfmagaa.Rw
open Go.Proofs.Ytfnmmknbjfmagaa.Da
def Post (F : Value → World → Prop) (w : World) (e : Ending) (w' : World) : Prop := ∃ v, e = .returned v ∧ Below w.heap.size w w' ∧ F v w'
theorem infoO : (Try.prog.info? 31).map (fun i => (i.zero, i.size, i.bytes)) = some (some (.agg #[.int .i64 0, .int .i64 0, .int .i64 0, .int .i64 0, .int .i64 0]), 5, 40) := by kernel_rfl
theorem infoL : (Try.prog.info? 48).map (fun i => (i.zero, i.size, i.bytes)) = some (some (.agg #[.int .i64 0, .slice none 0 0]), 2, 32) := by kernel_rfl
theorem elemO : Elem Try.prog 46 31 eO.k 40 := elem_of Try.underlying46 infoO rfl (by decide)
theorem elemL : Elem Try.prog 24 48 eL.k 32 := elem_of Try.underlying24 infoL rfl (by decide)
abbrev OwnO (B : Bs) (Bo : Nat) (l : List Od) (v : Value) (w : World) : Prop := Own eO 31 B Bo l v w
abbrev OwnL (B : Bs) (Bo : Nat) (l : List Lv) (v : Value) (w : World) : Prop := Own eL 48 B Bo l v w
theorem flat_take_snoc {l : List Lv} {k : Nat} (h : k < l.length) : flat (l.take (k + 1)) = flat (l.take k) ++ l[k].2 := by
  rw [take_snoc h, flat_app, flat_cons, flat_nil, List.append_nil]
set_option maxHeartbeats 2000000 in
theorem rOrders_any (B : Bs) (l : List Lv) (v : Value) (w : World) (h : LL B l v w) (hB : B.le w.heap.size) (hm : l.length ≤ 1000000) (hf : (flat l).length ≤ 1000000) :
    Calls Try.prog 49 #[v] w (Post (OL B (flat l)) w) := by
  rcases h.cases with ⟨rfl, a, c, rfl⟩ | ⟨hne, b, off, c, rfl, hat⟩
  · clear h
    go_enter Try.func49, Try.ntmps49
    go_wp2
    go_loopw [3, 8] (fun t i wr => i = .int .i64 0 ∧ t = .slice none 0 0 ∧ Below w.heap.size w wr) (fun _ i _ => 0)
    case atStart => exact ⟨rfl, rfl, Below.refl _ _⟩
    case round =>
      obtain ⟨rfl, rfl, hb⟩ := hrel
      go_wp2
      go_ret
      exact ⟨_, rfl, hb, Is.nil _ _ _ _⟩
  · have hbb : b < w.heap.size := hat.1
    have HA := Lib.hid hat
    have HF := Lib.hid hf
    obtain ⟨n, hn⟩ : ∃ n, n = l.length := ⟨_, rfl⟩
    rw [← hn] at hm ⊢
    have HN := Lib.hid hn
    clear h hat hn hne hf
    go_enter Try.func49, Try.ntmps49
    go_wp2
    go_loopw [3, 8] (fun t i wr => ∃ k : Nat, k ≤ n ∧ i = .int .i64 k ∧ Below w.heap.size w wr ∧ OwnO B w.heap.size (flat (l.take k)) t wr) (fun _ i _ => n - (intOf i).toNat)
    case atStart => exact ⟨0, Nat.zero_le _, rfl, Below.refl _ _, Own.nil _ _ _⟩
    case round =>
      obtain ⟨k, hk, rfl, hb, hown⟩ := hrel
      have HO := Lib.hid hown
      clear hown
      by_cases hlt : k < n
      · have hlt2 : (k : Int) < n := by omega
        have hkl : k < l.length := by rw [← HN.out]; exact hlt
        obtain ⟨x, q0, q1, hx⟩ := atL HA.out k hkl
        obtain ⟨c1, f1, r1, p1⟩ := bcell hb
        obtain ⟨⟨pr, os⟩, hlk⟩ : ∃ y, l[k] = y := ⟨_, rfl⟩
        have ht := flat_take_snoc hkl
        have hle := flat_take_le l (k + 1)
        rw [hlk] at q0 hx ht
        simp only at q0 hx ht
        have HT := Lib.hid ht
        have hs : (flat (l.take k)).length + os.length ≤ 1000000 := by rw [ht, List.length_append] at hle; have := HF.out; omega
        clear ht hle hlk
        obtain ⟨a2, c2, rfl⟩ := hx.len
        obtain ⟨V, hV⟩ : ∃ V, V = wr.alloc (.cells #[.int .i64 pr, .slice a2 os.length c2] 48) := ⟨_, rfl⟩
        have hbV : Below wr.heap.size wr V := hV ▸ below1 wr _
        have hsz := hb.size
        have hzV : wr.heap.size < V.heap.size := by rw [hV]; simp
        have hbw := nx hb hbV
        have HX := Lib.hid (Is.stays eO 31 (Is.stays eO 31 hx hb) hbV)
        obtain ⟨v2, w2, hrun, hown2, _, hbl, _⟩ := Own.append elemO 46 typesO hB (by omega) (HO.out.stays hbV) HX.out (by omega)  (by omega)
        have HO3 : Hid (OwnO B w.heap.size (flat (l.take (k + 1))) v2 w2) := Lib.hid (by rw [HT.out]; exact hown2)
        have hb2 := hbl _ _ (Nat.le_refl _) hbw
        rw [hV] at hrun
        clear hown2 hbl hV
        go_wp2
        go_roundw
        case rel => exact ⟨k + 1, by omega, by go_num, hb2, HO3.out⟩
        case measure => simp [intOf]; omega
      · obtain rfl : k = n := by omega
        have e1 : l.take k = l := by rw [HN.out, List.take_length]
        have ho := HO.out
        rw [e1] at ho
        have HZ := Lib.hid ho
        clear ho e1
        go_wp2
        go_ret
        exact ⟨_, rfl, hb, HZ.out.is (by decide) hB⟩
end Go.Proofs.Ytfnmmknbjfmagaa.Le
/- The document's own: own. -/
namespace Go.Proofs.Ytfnmmknbjfmagaa.Le
open Go.RowKit
set_option linter.unusedVariables false
open Go.Proofs.Ytfnmmknbjfmagaa.Rw
open Go.Proofs.Ytfnmmknbjfmagaa.Da
theorem Own.block {α : Type} {e : Enc α} {T : TypeId} {B : Bs} {Bo : Nat} {l : List α} {v : Value} {w : World} (h : Own e T B Bo l v w) : ∀ k, v.ownBlock = some k → Bo ≤ k ∧ k < w.heap.size := by
  obtain ⟨css, _, _, hr⟩ := h
  exact fun k hk => hr.lt k hk
theorem take_all {α : Type} {l : List α} {k : Nat} (h : k < l.length) : l.take (k + 1) = l.take k ++ [l[k]] := Da.take_snoc h
set_option maxHeartbeats 2000000 in
theorem rOwn_any (B : Bs) (l : List Lv) (v : Value) (w : World) (h : LL B l v w) (hB : B.le w.heap.size) (hm : l.length ≤ 1000000) (hf : (flat l).length ≤ 1000000) :
    Calls Try.prog 67 #[v] w (Post (LL B l) w) := by
  rcases h.cases with ⟨rfl, a, c, rfl⟩ | ⟨hne, b, off, c, rfl, hat⟩
  · clear h
    go_enter Try.func67, Try.ntmps67
    go_wp2
    go_loopw [3, 8] (fun t i wr => i = .int .i64 0 ∧ t = .slice none 0 0 ∧ Below w.heap.size w wr) (fun _ i _ => 0)
    case atStart => exact ⟨rfl, rfl, Below.refl _ _⟩
    case round =>
      obtain ⟨rfl, rfl, hb⟩ := hrel
      go_wp2
      go_ret
      exact ⟨_, rfl, hb, Is.nil _ _ _ _⟩
  · have hbb : b < w.heap.size := hat.1
    have HA := Lib.hid hat
    have HF := Lib.hid hf
    obtain ⟨n, hn⟩ : ∃ n, n = l.length := ⟨_, rfl⟩
    rw [← hn] at hm ⊢
    have HN := Lib.hid hn
    clear h hat hn hne hf
    go_enter Try.func67, Try.ntmps67
    go_wp2
    go_loopw [3, 8] (fun t i wr => ∃ k : Nat, k ≤ n ∧ i = .int .i64 k ∧ Below w.heap.size w wr ∧ OwnL B w.heap.size (l.take k) t wr) (fun _ i _ => n - (intOf i).toNat)
    case atStart => exact ⟨0, Nat.zero_le _, rfl, Below.refl _ _, Own.nil _ _ _⟩
    case round =>
      obtain ⟨k, hk, rfl, hb, hown⟩ := hrel
      have HO := Lib.hid hown
      clear hown
      by_cases hlt : k < n
      · have hlt2 : (k : Int) < n := by omega
        have hkl : k < l.length := by rw [← HN.out]; exact hlt
        obtain ⟨x, q0, q1, hx⟩ := atL HA.out k hkl
        obtain ⟨c1, f1, r1, p1⟩ := bcell hb
        obtain ⟨⟨pr, os⟩, hlk⟩ : ∃ y, l[k] = y := ⟨_, rfl⟩
        have ht := take_all hkl
        have hle := flat_take_le l (k + 1)
        rw [flat_take_snoc hkl, List.length_append] at hle
        rw [hlk] at q0 hx ht hle
        simp only at q0 hx ht hle
        have HT := Lib.hid ht
        have HS : Hid (os.length ≤ 1000000) := Lib.hid (by have := HF.out; omega)
        clear ht hle hlk
        obtain ⟨a2, c2, rfl⟩ := hx.len
        obtain ⟨V, hV⟩ : ∃ V, V = wr.alloc (.cells #[.int .i64 pr, .slice a2 os.length c2] 48) := ⟨_, rfl⟩
        have hbV : Below wr.heap.size wr V := hV ▸ below1 wr _
        have hsz := hb.size
        have hzV : wr.heap.size < V.heap.size := by rw [hV]; simp
        have s0 : V.cell? ⟨wr.heap.size, 0, none⟩ = some (.int .i64 pr) := by rw [hV]; simp [go_sem]
        have s1 : V.cell? ⟨wr.heap.size, 1, none⟩ = some (.slice a2 os.length c2) := by rw [hV]; simp [go_sem]
        have hbw := nx hb hbV
        have HX := Lib.hid (Is.stays eO 31 (Is.stays eO 31 hx hb) hbV)
        have HOV := Lib.hid (HO.out.stays hbV)
        have hne : some wr.heap.size ≠ u3.ownBlock := fun e => by have := (Own.block HO.out _ e.symm).2; omega
        have hF : ∀ u, V.grownBy u u3.ownBlock → u.cell? ⟨wr.heap.size, 0, none⟩ = some (.int .i64 pr) ∧ u.cell? ⟨wr.heap.size, 1, none⟩ = some (.slice a2 os.length c2) := fun u hu =>
          ⟨by rw [grown_cell hu hzV hne]; exact s0, by rw [grown_cell hu hzV hne]; exact s1⟩
        clear hx
        go_wp2
        rw [← hV]
        clear s0 s1 hV
        refine Rh.region (fun u => V.grownBy u u3.ownBlock) (fun u => Below V.heap.size V u) (grown_stays V _) (fun _ _ h k => nx h k) (grown_drew V _) ((Below.refl _ _).drew) [0, 1, 2, 4, 5, 3, 6, 7, 8, 9, 10] (by kernel_rfl) (by kernel_rfl) (by kernel_rfl) (fun _ _ d _ _ h => by cases d <;> exact h) ?_
        repeat (first | (refine Rh.Steps.skip (by rfl) (by kernel_rfl) (by rfl) ?_; simp only [Act.put, List.setIfInBounds_toArray, List.set_cons_zero, List.set_cons_succ]) | (refine Rh.Steps.pure (v := ?_) (by rfl) (by kernel_rfl) (by rfl) ?_ ?_; rotate_left; (intro w_ hS_; have hk_ := hF w_ hS_; go_simp <;> with_reducible rfl); simp only [Act.put, List.setIfInBounds_toArray, List.set_cons_zero, List.set_cons_succ]))
        refine Rh.Steps.forced (i := 3) (by kernel_rfl) ?_
        refine Rh.One.val (fun v u => OwnO B V.heap.size [] v u) (fun v _ _ h k => h.stays k) (by rfl) (by rfl) ?_ ?_
        · intro w_ hS_ hG_
          refine ⟨_, _, ?_, below1 w_ (.cells #[] 31), Own.made B w_ V.heap.size hS_.size⟩
          go_simp
        intro v1 u1 hv1
        simp only [Act.put, List.setIfInBounds_toArray, List.set_cons_zero, List.set_cons_succ]
        refine Rh.Steps.forced (i := 6) (by kernel_rfl) ?_
        refine Rh.One.new (fun v u => Below V.heap.size V u ∧ OwnO B V.heap.size os v u) (fun v _ _ h k => ⟨nx h.1 k, h.2.stays k⟩) (by rfl) (by rfl) ?_ ?_
        · intro w_ hS_ hG_
          obtain ⟨v2, w2, hrun, hown2, hg2, hbl, _⟩ := Own.append elemO 46 typesO (hB.mono hbw.size) hS_.size hG_.2 (Is.stays eO 31 HX.out hG_.1) (by have := HS.out; simp; omega) (by omega)
          have hb2 := hbl _ _ (Nat.le_refl _) hG_.1
          refine ⟨v2, w2, ?_, grown_below _ hb2, hb2, by simpa using hown2⟩
          go_simp
        intro v2 u2 hv2
        simp only [Act.put, List.setIfInBounds_toArray, List.set_cons_zero, List.set_cons_succ]
        obtain ⟨a3, c3, rfl⟩ := (hv2.2.is (by decide) (hB.mono hbw.size)).len
        repeat (first | (refine Rh.Steps.skip (by rfl) (by kernel_rfl) (by rfl) ?_; simp only [Act.put, List.setIfInBounds_toArray, List.set_cons_zero, List.set_cons_succ]) | (refine Rh.Steps.pure (v := ?_) (by rfl) (by kernel_rfl) (by rfl) ?_ ?_; rotate_left; (intro w_ hS_; have hk_ := hF w_ hS_; go_simp <;> with_reducible rfl); simp only [Act.put, List.setIfInBounds_toArray, List.set_cons_zero, List.set_cons_succ]))
        refine Rh.Steps.forced (i := 8) (by kernel_rfl) ?_
        refine Rh.One.val (fun v u => LL B [(pr, os)] v u) (fun v _ _ h k => Is.stays eL 48 h k) (by rfl) (by rfl) ?_ ?_
        · intro w_ hS_ hG_
          refine ⟨_, _, ?_, below1 w_ (.cells #[.int .i64 pr, .slice a3 os.length c3] 48), Is.one (hB.mono (Nat.le_trans hbw.size hS_.size)) (eL_mk (hG_.2.is (by decide) (hB.mono hbw.size)))⟩
          go_simp
        intro v3 u4 hv3
        simp only [Act.put, List.setIfInBounds_toArray, List.set_cons_zero, List.set_cons_succ]
        refine Rh.Steps.forced (i := 9) (by kernel_rfl) ?_
        refine Rh.One.new (fun v u => Below w.heap.size w u ∧ OwnL B w.heap.size (l.take (k + 1)) v u) (fun v _ _ h k => ⟨nx h.1 k, h.2.stays k⟩) (by rfl) (by rfl) ?_ ?_
        · intro w_ hS_ hG_
          have hbu := hG_.1.1
          obtain ⟨v2, w2, hrun, hown2, hg2, hbl, _⟩ := Own.append elemL 24 typesL hB (Nat.le_trans hbw.size hS_.size) (HOV.out.stays hbu) hG_.2 (by have := List.length_take_le k l; simp; omega) (by omega)
          refine ⟨v2, w2, ?_, grown_trans hS_ hg2, hbl _ _ (Nat.le_refl _) (nx hbw hbu), by rw [HT.out]; exact hown2⟩
          go_simp
        intro v4 u5 hv4
        simp only [Act.put, List.setIfInBounds_toArray, List.set_cons_zero, List.set_cons_succ]
        repeat (first | (refine Rh.Steps.skip (by rfl) (by kernel_rfl) (by rfl) ?_; simp only [Act.put, List.setIfInBounds_toArray, List.set_cons_zero, List.set_cons_succ]) | (refine Rh.Steps.pure (v := ?_) (by rfl) (by kernel_rfl) (by rfl) ?_ ?_; rotate_left; (intro w_ hS_; have hk_ := hF w_ hS_; go_simp <;> with_reducible rfl); simp only [Act.put, List.setIfInBounds_toArray, List.set_cons_zero, List.set_cons_succ]))
        refine Rh.Steps.nil (by kernel_rfl) ?_
        intro w4 _ hG4
        have HG := Lib.hid hG4
        clear hG4
        go_wp2
        go_roundw
        case rel => exact ⟨k + 1, by omega, by go_num, HG.out.1, HG.out.2⟩
        case measure => simp [intOf]; omega
      · obtain rfl : k = n := by omega
        have e1 : l.take k = l := by rw [HN.out, List.take_length]
        have ho := HO.out
        rw [e1] at ho
        have HZ := Lib.hid ho
        clear ho e1
        go_wp2
        go_ret
        exact ⟨_, rfl, hb, HZ.out.is (by decide) hB⟩
end Go.Proofs.Ytfnmmknbjfmagaa.Le
/- The document's own: own, with what it says of the rows: each level's orders lie in a row of the call's own, no two in one. -/
namespace Go.Proofs.Ytfnmmknbjfmagaa.Le
open Go.RowKit
set_option linter.unusedVariables false
open Go.Proofs.Ytfnmmknbjfmagaa.Rw
open Go.Proofs.Ytfnmmknbjfmagaa.Da
theorem Own.lower {α : Type} {e : Enc α} {T : TypeId} {B : Bs} {Bo n : Nat} {l : List α} {v : Value} {w : World} (h : Own e T B Bo l v w) (hn : n ≤ Bo) : Own e T B n l v w := by
  obtain ⟨css, hl, hc, hr⟩ := h
  refine ⟨css, hl, hc, hr.1, ?_⟩
  rcases hr.2 with h | ⟨g, cap, cur, hv, hb, hr⟩
  · exact .inl h
  · exact .inr ⟨g, cap, cur, hv, Nat.le_trans hn hb, hr⟩
/-- A level as it lies: its price, and its slice of orders. -/
abbrev Hw := Int × Option Addr × Nat × Nat
def hv (h : Hw) : Value := .slice h.2.1 h.2.2.1 h.2.2.2
def eF : Enc Hw := Enc.flat 2 (fun h => [.int .i64 h.1, hv h]) (fun _ => rfl) (fun h u hu => by simp [hv] at hu; rcases hu with rfl | rfl <;> rfl)
theorem elemF : Elem Try.prog 24 48 eF.k 32 := elem_of Try.underlying24 infoL rfl (by decide)
abbrev OwnF (B : Bs) (Bo : Nat) (l : List Hw) (v : Value) (w : World) : Prop := Own eF 48 B Bo l v w
theorem typesF : 48 ∉ eF.ts := by decide
/-- The levels l lie as hs say, their orders in rows of the call's own, each in another one. -/
structure Mine (B : Bs) (Bo : Nat) (l : List Lv) (hs : List Hw) (w : World) : Prop where
  len : hs.length = l.length
  own : ∀ (i : Nat) (x : Lv) (y : Hw), l[i]? = some x → hs[i]? = some y → y.1 = x.1 ∧ OwnO B Bo x.2 (hv y) w
  apart : ∀ (i j : Nat) (y z : Hw) (g : Nat), i < j → hs[i]? = some y → hs[j]? = some z → (hv y).ownBlock = some g → (hv z).ownBlock ≠ some g
theorem Mine.nil (B : Bs) (Bo : Nat) (w : World) : Mine B Bo [] [] w := ⟨rfl, by simp, by simp⟩
theorem Mine.keep {B : Bs} {Bo : Nat} {l : List Lv} {hs : List Hw} {w w' : World} (hB : B.le Bo) (h : Mine B Bo l hs w) (hk : Keeps B [31] w w') : Mine B Bo l hs w' :=
  ⟨h.len, fun i x y hx hy => ⟨(h.own i x y hx hy).1, Own.keep hB (h.own i x y hx hy).2 hk⟩, h.apart⟩
theorem Mine.stays {B : Bs} {Bo : Nat} {l : List Lv} {hs : List Hw} {w w' : World} (h : Mine B Bo l hs w) (hk : Below w.heap.size w w') : Mine B Bo l hs w' :=
  ⟨h.len, fun i x y hx hy => ⟨(h.own i x y hx hy).1, (h.own i x y hx hy).2.stays hk⟩, h.apart⟩
theorem Mine.snoc {B : Bs} {Bo Bo' : Nat} {l : List Lv} {hs : List Hw} {x : Lv} {y : Hw} {w V : World} (h : Mine B Bo l hs w) (hV : Mine B Bo l hs V) (hz : V.heap.size ≤ Bo') (hBo : Bo ≤ Bo') (hp : y.1 = x.1) (hy : OwnO B Bo' x.2 (hv y) w) : Mine B Bo (l ++ [x]) (hs ++ [y]) w := by
  refine ⟨by rw [List.length_append, List.length_append, h.len]; rfl, fun i a b ha hb => ?_, fun i j a b g hij ha hb hga hgb => ?_⟩
  · by_cases hi : i < l.length
    · rw [List.getElem?_append_left hi] at ha
      rw [List.getElem?_append_left (by rw [h.len]; exact hi)] at hb
      exact h.own i a b ha hb
    · rw [List.getElem?_append_right (by omega)] at ha
      rw [List.getElem?_append_right (by rw [h.len]; omega), h.len] at hb
      rcases hd : i - l.length with _ | m
      · rw [hd] at ha hb
        simp at ha hb
        subst ha hb
        exact ⟨hp, Own.lower hy hBo⟩
      · rw [hd] at ha
        simp at ha
  · by_cases hj : j < hs.length
    · rw [List.getElem?_append_left (by omega)] at ha
      rw [List.getElem?_append_left hj] at hb
      exact h.apart i j a b g hij ha hb hga hgb
    · rw [List.getElem?_append_right (by omega)] at hb
      rcases hd : j - hs.length with _ | m
      · rw [hd] at hb
        simp at hb
        subst hb
        have hi : i < hs.length := by omega
        rw [List.getElem?_append_left hi] at ha
        have h1 := (Own.block (hV.own i _ _ (List.getElem?_eq_getElem (by rw [← h.len]; exact hi)) ha).2 g hga).2
        have h2 := (Own.block hy g hgb).1
        omega
      · rw [hd] at hb
        simp at hb
set_option maxHeartbeats 2000000 in
theorem rOwn2_any (B : Bs) (l : List Lv) (v : Value) (w : World) (h : LL B l v w) (hB : B.le w.heap.size) (hm : l.length ≤ 1000000) (hf : (flat l).length ≤ 1000000) :
    Calls Try.prog 67 #[v] w (Post (fun v w' => ∃ hs, Is eF 48 B hs v w' ∧ Mine B w.heap.size l hs w') w) := by
  rcases h.cases with ⟨rfl, a, c, rfl⟩ | ⟨hne, b, off, c, rfl, hat⟩
  · clear h
    go_enter Try.func67, Try.ntmps67
    go_wp2
    go_loopw [3, 8] (fun t i wr => i = .int .i64 0 ∧ t = .slice none 0 0 ∧ Below w.heap.size w wr) (fun _ i _ => 0)
    case atStart => exact ⟨rfl, rfl, Below.refl _ _⟩
    case round =>
      obtain ⟨rfl, rfl, hb⟩ := hrel
      go_wp2
      go_ret
      exact ⟨_, rfl, hb, [], Is.nil _ _ _ _, Mine.nil _ _ _⟩
  · have hbb : b < w.heap.size := hat.1
    have HA := Lib.hid hat
    have HF := Lib.hid hf
    obtain ⟨n, hn⟩ : ∃ n, n = l.length := ⟨_, rfl⟩
    rw [← hn] at hm ⊢
    have HN := Lib.hid hn
    clear h hat hn hne hf
    go_enter Try.func67, Try.ntmps67
    go_wp2
    go_loopw [3, 8] (fun t i wr => ∃ k : Nat, k ≤ n ∧ i = .int .i64 k ∧ Below w.heap.size w wr ∧ ∃ hs, OwnF B w.heap.size hs t wr ∧ Mine B w.heap.size (l.take k) hs wr) (fun _ i _ => n - (intOf i).toNat)
    case atStart => exact ⟨0, Nat.zero_le _, rfl, Below.refl _ _, [], Own.nil _ _ _, Mine.nil _ _ _⟩
    case round =>
      obtain ⟨k, hk, rfl, hb, hs, hown, hmine⟩ := hrel
      have HO := Lib.hid hown
      have HM := Lib.hid hmine
      clear hown hmine
      by_cases hlt : k < n
      · have hlt2 : (k : Int) < n := by omega
        have hkl : k < l.length := by rw [← HN.out]; exact hlt
        obtain ⟨x, q0, q1, hx⟩ := atL HA.out k hkl
        obtain ⟨c1, f1, r1, p1⟩ := bcell hb
        obtain ⟨⟨pr, os⟩, hlk⟩ : ∃ y, l[k] = y := ⟨_, rfl⟩
        have ht := take_all hkl
        have hle := flat_take_le l (k + 1)
        rw [flat_take_snoc hkl, List.length_append] at hle
        rw [hlk] at q0 hx ht hle
        simp only at q0 hx ht hle
        have HT := Lib.hid ht
        have HS : Hid (os.length ≤ 1000000) := Lib.hid (by have := HF.out; omega)
        clear ht hle hlk
        obtain ⟨a2, c2, rfl⟩ := hx.len
        obtain ⟨V, hV⟩ : ∃ V, V = wr.alloc (.cells #[.int .i64 pr, .slice a2 os.length c2] 48) := ⟨_, rfl⟩
        have hbV : Below wr.heap.size wr V := hV ▸ below1 wr _
        have hsz := hb.size
        have hzV : wr.heap.size < V.heap.size := by rw [hV]; simp
        have s0 : V.cell? ⟨wr.heap.size, 0, none⟩ = some (.int .i64 pr) := by rw [hV]; simp [go_sem]
        have s1 : V.cell? ⟨wr.heap.size, 1, none⟩ = some (.slice a2 os.length c2) := by rw [hV]; simp [go_sem]
        have hbw := nx hb hbV
        have HX := Lib.hid (Is.stays eO 31 (Is.stays eO 31 hx hb) hbV)
        have HOV := Lib.hid (HO.out.stays hbV)
        have HMV := Lib.hid (HM.out.stays hbV)
        have hne : some wr.heap.size ≠ u3.ownBlock := fun e => by have := (Own.block HO.out _ e.symm).2; omega
        have hF : ∀ u, V.grownBy u u3.ownBlock → u.cell? ⟨wr.heap.size, 0, none⟩ = some (.int .i64 pr) ∧ u.cell? ⟨wr.heap.size, 1, none⟩ = some (.slice a2 os.length c2) := fun u hu =>
          ⟨by rw [grown_cell hu hzV hne]; exact s0, by rw [grown_cell hu hzV hne]; exact s1⟩
        clear hx
        go_wp2
        rw [← hV]
        clear s0 s1 hV
        refine Rh.region (fun u => V.grownBy u u3.ownBlock) (fun u => Below V.heap.size V u) (grown_stays V _) (fun _ _ h k => nx h k) (grown_drew V _) ((Below.refl _ _).drew) [0, 1, 2, 4, 5, 3, 6, 7, 8, 9, 10] (by kernel_rfl) (by kernel_rfl) (by kernel_rfl) (fun _ _ d _ _ h => by cases d <;> exact h) ?_
        repeat (first | (refine Rh.Steps.skip (by rfl) (by kernel_rfl) (by rfl) ?_; simp only [Act.put, List.setIfInBounds_toArray, List.set_cons_zero, List.set_cons_succ]) | (refine Rh.Steps.pure (v := ?_) (by rfl) (by kernel_rfl) (by rfl) ?_ ?_; rotate_left; (intro w_ hS_; have hk_ := hF w_ hS_; go_simp <;> with_reducible rfl); simp only [Act.put, List.setIfInBounds_toArray, List.set_cons_zero, List.set_cons_succ]))
        refine Rh.Steps.forced (i := 3) (by kernel_rfl) ?_
        refine Rh.One.val (fun v u => OwnO B V.heap.size [] v u) (fun v _ _ h k => h.stays k) (by rfl) (by rfl) ?_ ?_
        · intro w_ hS_ hG_
          refine ⟨_, _, ?_, below1 w_ (.cells #[] 31), Own.made B w_ V.heap.size hS_.size⟩
          go_simp
        intro v1 u1 hv1
        simp only [Act.put, List.setIfInBounds_toArray, List.set_cons_zero, List.set_cons_succ]
        refine Rh.Steps.forced (i := 6) (by kernel_rfl) ?_
        refine Rh.One.new (fun v u => Below V.heap.size V u ∧ OwnO B V.heap.size os v u) (fun v _ _ h k => ⟨nx h.1 k, h.2.stays k⟩) (by rfl) (by rfl) ?_ ?_
        · intro w_ hS_ hG_
          obtain ⟨v2, w2, hrun, hown2, hg2, hbl, _⟩ := Own.append elemO 46 typesO (hB.mono hbw.size) hS_.size hG_.2 (Is.stays eO 31 HX.out hG_.1) (by have := HS.out; simp; omega) (by omega)
          have hb2 := hbl _ _ (Nat.le_refl _) hG_.1
          refine ⟨v2, w2, ?_, grown_below _ hb2, hb2, by simpa using hown2⟩
          go_simp
        intro v2 u2 hv2
        simp only [Act.put, List.setIfInBounds_toArray, List.set_cons_zero, List.set_cons_succ]
        obtain ⟨a3, n3, c3, rfl⟩ : ∃ a n c, v2 = .slice a n c := by obtain ⟨a, c, h⟩ := (hv2.2.is (by decide) (hB.mono hbw.size)).len; exact ⟨a, _, c, h⟩
        repeat (first | (refine Rh.Steps.skip (by rfl) (by kernel_rfl) (by rfl) ?_; simp only [Act.put, List.setIfInBounds_toArray, List.set_cons_zero, List.set_cons_succ]) | (refine Rh.Steps.pure (v := ?_) (by rfl) (by kernel_rfl) (by rfl) ?_ ?_; rotate_left; (intro w_ hS_; have hk_ := hF w_ hS_; go_simp <;> with_reducible rfl); simp only [Act.put, List.setIfInBounds_toArray, List.set_cons_zero, List.set_cons_succ]))
        refine Rh.Steps.forced (i := 8) (by kernel_rfl) ?_
        refine Rh.One.val (fun v u => Is eF 48 B [(pr, a3, n3, c3)] v u) (fun v _ _ h k => Is.stays eF 48 h k) (by rfl) (by rfl) ?_ ?_
        · intro w_ hS_ hG_
          refine ⟨_, _, ?_, below1 w_ (.cells #[.int .i64 pr, .slice a3 n3 c3] 48), Is.one (e := eF) (x := (pr, a3, n3, c3)) (cs := [.int .i64 pr, .slice a3 n3 c3]) (hB.mono (Nat.le_trans hbw.size hS_.size)) rfl⟩
          go_simp
        intro v3 u4 hv3
        simp only [Act.put, List.setIfInBounds_toArray, List.set_cons_zero, List.set_cons_succ]
        refine Rh.Steps.forced (i := 9) (by kernel_rfl) ?_
        refine Rh.One.new (fun v u => Below w.heap.size w u ∧ OwnF B w.heap.size (hs ++ [(pr, a3, n3, c3)]) v u ∧ Mine B w.heap.size (l.take (k + 1)) (hs ++ [(pr, a3, n3, c3)]) u) (fun v _ _ h k => ⟨nx h.1 k, h.2.1.stays k, h.2.2.stays k⟩) (by rfl) (by rfl) ?_ ?_
        · intro w_ hS_ hG_
          have hbu := hG_.1.1
          obtain ⟨v2, w2, hrun, hown2, hg2, hbl, hkp⟩ := Own.append elemF 24 typesF hB (Nat.le_trans hbw.size hS_.size) (HOV.out.stays hbu) hG_.2 (by have := HM.out.len; have := List.length_take_le k l; simp only [List.length_singleton]; omega) (by omega)
          have hk2 := hkp [31] (by decide)
          refine ⟨v2, w2, ?_, grown_trans hS_ hg2, hbl _ _ (Nat.le_refl _) (nx hbw hbu), hown2, ?_⟩
          · go_simp
          · rw [HT.out]
            exact Mine.snoc ((HMV.out.stays hbu).keep hB hk2) HMV.out (Nat.le_refl _) hbw.size rfl (Own.keep (hB.mono hbw.size) hG_.1.2 hk2)
        intro v4 u5 hv4
        simp only [Act.put, List.setIfInBounds_toArray, List.set_cons_zero, List.set_cons_succ]
        repeat (first | (refine Rh.Steps.skip (by rfl) (by kernel_rfl) (by rfl) ?_; simp only [Act.put, List.setIfInBounds_toArray, List.set_cons_zero, List.set_cons_succ]) | (refine Rh.Steps.pure (v := ?_) (by rfl) (by kernel_rfl) (by rfl) ?_ ?_; rotate_left; (intro w_ hS_; have hk_ := hF w_ hS_; go_simp <;> with_reducible rfl); simp only [Act.put, List.setIfInBounds_toArray, List.set_cons_zero, List.set_cons_succ]))
        refine Rh.Steps.nil (by kernel_rfl) ?_
        intro w4 _ hG4
        have HG := Lib.hid hG4
        clear hG4
        go_wp2
        go_roundw
        case rel => exact ⟨k + 1, by omega, by go_num, HG.out.1, _, HG.out.2.1, HG.out.2.2⟩
        case measure => simp [intOf]; omega
      · obtain rfl : k = n := by omega
        have e1 : l.take k = l := by rw [HN.out, List.take_length]
        have HZ := HO
        have hm9 := HM.out
        rw [e1] at hm9
        have HM9 := Lib.hid hm9
        clear hm9 e1
        go_wp2
        go_ret
        exact ⟨_, rfl, hb, _, HZ.out.is (by decide) hB, HM9.out⟩
end Go.Proofs.Ytfnmmknbjfmagaa.Le
/- Pure: Put as a loop over the levels. -/
namespace Go.Proofs.Ytfnmmknbjfmagaa.Le
def stepW (s : Int) (o : Od) (p : List Lv × Bool) (v : Lv) : List Lv × Bool :=
  if p.2 = true then (p.1 ++ [v], true) else if v.1 = opr o then (p.1 ++ [(v.1, v.2 ++ [o])], true) else if ahead s (opr o) v.1 = true then (p.1 ++ [(opr o, [o]), v], true) else (p.1 ++ [v], false)
def putW (s : Int) (o : Od) (l : List Lv) : List Lv × Bool := l.foldl (stepW s o) ([], false)
theorem putW_snoc (s : Int) (o : Od) (l : List Lv) (v : Lv) : putW s o (l ++ [v]) = stepW s o (putW s o l) v := by unfold putW; rw [List.foldl_append]; rfl
theorem stepW_done {s : Int} {o : Od} (a : List Lv) (v : Lv) : stepW s o (a, true) v = (a ++ [v], true) := by unfold stepW; rw [if_pos rfl]
theorem stepW_hit {s : Int} {o : Od} (a : List Lv) {v : Lv} (h : v.1 = opr o) : stepW s o (a, false) v = (a ++ [(v.1, v.2 ++ [o])], true) := by unfold stepW; rw [if_neg (by simp), if_pos h]
theorem stepW_new {s : Int} {o : Od} (a : List Lv) {v : Lv} (h : ¬ v.1 = opr o) (k : ahead s (opr o) v.1 = true) : stepW s o (a, false) v = (a ++ [(opr o, [o]), v], true) := by unfold stepW; rw [if_neg (by simp), if_neg h, if_pos k]
theorem stepW_on {s : Int} {o : Od} (a : List Lv) {v : Lv} (h : ¬ v.1 = opr o) (k : ahead s (opr o) v.1 = false) : stepW s o (a, false) v = (a ++ [v], false) := by unfold stepW; rw [if_neg (by simp), if_neg h, if_neg (by simp [k])]
theorem foldW_done (s : Int) (o : Od) : ∀ (l acc : List Lv), l.foldl (stepW s o) (acc, true) = (acc ++ l, true)
  | [], acc => by simp
  | v :: r, acc => by rw [List.foldl_cons, stepW_done, foldW_done]; simp
theorem foldW (s : Int) (o : Od) : ∀ (l acc : List Lv), (if (l.foldl (stepW s o) (acc, false)).2 = true then (l.foldl (stepW s o) (acc, false)).1 else (l.foldl (stepW s o) (acc, false)).1 ++ [(opr o, [o])]) = acc ++ putL s o l
  | [], acc => by simp [putL]
  | v :: r, acc => by
    rw [putL]
    by_cases h1 : v.1 = opr o
    · rw [List.foldl_cons, stepW_hit acc h1, if_pos h1, foldW_done, if_pos rfl]; simp
    · rw [if_neg h1]
      cases h2 : ahead s (opr o) v.1
      · rw [List.foldl_cons, stepW_on acc h1 h2, foldW s o r (acc ++ [v]), if_neg (by decide)]; simp
      · rw [List.foldl_cons, stepW_new acc h1 h2, if_pos rfl, foldW_done, if_pos rfl]; simp
theorem putW_put (s : Int) (o : Od) (l : List Lv) : putL s o l = if (putW s o l).2 = true then (putW s o l).1 else (putW s o l).1 ++ [(opr o, [o])] := by
  rw [putW, foldW]; simp
theorem foldW_no (s : Int) (o : Od) : ∀ (l acc : List Lv), (l.foldl (stepW s o) (acc, false)).2 = false → (l.foldl (stepW s o) (acc, false)).1 = acc ++ l
  | [], acc, _ => by simp
  | v :: r, acc, h => by
    by_cases h1 : v.1 = opr o
    · rw [List.foldl_cons, stepW_hit acc h1, foldW_done] at h; cases h
    · cases h2 : ahead s (opr o) v.1
      · rw [List.foldl_cons, stepW_on acc h1 h2] at h ⊢
        rw [foldW_no s o r _ h]; simp
      · rw [List.foldl_cons, stepW_new acc h1 h2, foldW_done] at h; cases h
theorem putW_no {s : Int} {o : Od} {l : List Lv} (h : (putW s o l).2 = false) : (putW s o l).1 = l := by
  have := foldW_no s o l [] h
  rwa [List.nil_append] at this
theorem putW_len (s : Int) (o : Od) (l : List Lv) : (putW s o l).1.length ≤ l.length + 1 := by
  suffices ∀ (l acc : List Lv) (d : Bool), (l.foldl (stepW s o) (acc, d)).1.length ≤ acc.length + l.length + (if d then 0 else 1) by
    have := this l [] false; simpa [putW] using this
  intro l
  induction l with
  | nil => intro acc d; simp
  | cons v r ih =>
    intro acc d
    rw [List.foldl_cons]
    cases d
    · by_cases h1 : v.1 = opr o
      · rw [stepW_hit acc h1]
        have := ih (acc ++ [(v.1, v.2 ++ [o])]) true; simp at this ⊢; omega
      · cases h2 : ahead s (opr o) v.1
        · rw [stepW_on acc h1 h2]
          have := ih (acc ++ [v]) false; simp at this ⊢; omega
        · rw [stepW_new acc h1 h2]
          have := ih (acc ++ [(opr o, [o]), v]) true; simp at this ⊢; omega
    · rw [stepW_done]
      have := ih (acc ++ [v]) true; simp at this ⊢; omega
end Go.Proofs.Ytfnmmknbjfmagaa.Le
/- Of the statements of layer 8: orders, same, far, order. -/
namespace Go.Proofs.Ytfnmmknbjfmagaa.Le
open Go.RowKit
set_option linter.unusedVariables false
open Go.Proofs.Ytfnmmknbjfmagaa.Rw
open Go.Proofs.Ytfnmmknbjfmagaa.Da
theorem take_eq {α : Type} {l m : List α} {k : Nat} (h1 : k < l.length) (h2 : k < m.length) (h : l.take k = m.take k) (e : l[k] = m[k]) : l.take (k + 1) = m.take (k + 1) := by
  rw [Da.take_snoc h1, Da.take_snoc h2, h, e]
theorem ne_at {α : Type} {l m : List α} {k : Nat} (h1 : k < l.length) (h2 : k < m.length) (e : l[k] ≠ m[k]) : l ≠ m := fun h => by subst h; exact e rfl
theorem eq_lv {a b : Lv} : a = b ↔ a.1 = b.1 ∧ a.2 = b.2 := Prod.ext_iff
/-- Too many for the statements: the count stops there. -/
def farTo : List Lv → Int → Bool
  | [], _ => false
  | v :: r, n => if 200 < n + min (v.2.length : Int) 1000 then true else farTo r (n + min (v.2.length : Int) 1000)
def far (l : List Lv) : Bool := farTo l 0 || decide (100 < (l.length : Int))
theorem farTo_le : ∀ {l : List Lv} {n : Int}, farTo l n = false → 0 ≤ n → n ≤ 200 → n + (flat l).length ≤ 200
  | [], n, _, h0, h2 => by simp [flat]; omega
  | v :: r, n, h, h0, h2 => by
    rw [farTo] at h
    split at h
    · cases h
    · rename_i hc
      have := farTo_le h (by omega) (by omega)
      rw [flat_cons, List.length_append]
      have hmin : min (v.2.length : Int) 1000 = v.2.length := by omega
      rw [hmin] at this
      omega
theorem far_no {l : List Lv} (h : far l = false) : l.length ≤ 100 ∧ (flat l).length ≤ 200 := by
  unfold far at h
  rw [Bool.or_eq_false_iff] at h
  have h1 := farTo_le h.1 (by omega) (by omega)
  have h2 := of_decide_eq_false h.2
  omega
theorem far_drop {l : List Lv} {k : Nat} (h : k < l.length) (n : Int) : farTo (l.drop k) n = if 200 < n + min (l[k].2.length : Int) 1000 then true else farTo (l.drop (k + 1)) (n + min (l[k].2.length : Int) 1000) := by
  rw [drop_cons h, farTo]
end Go.Proofs.Ytfnmmknbjfmagaa.Le
/- Levels that came in, as a list of lists. -/
namespace Go.Proofs.Ytfnmmknbjfmagaa.Le
open Go.RowKit
set_option linter.unusedVariables false
open Go.ChangeShapes Go.WideShapes Go.Deep
open Go.Proofs.Ytfnmmknbjfmagaa.Rw
open Go.Proofs.Ytfnmmknbjfmagaa.Da
theorem cellsI : Try.prog.cellsOf 3 = 1 := by kernel_rfl
theorem cellsO5 : Try.prog.cellsOf 31 = 5 := by kernel_rfl
theorem cellsOs : Try.prog.cellsOf 46 = 1 := by kernel_rfl
theorem cellsL2 : Try.prog.cellsOf 48 = 2 := by kernel_rfl
theorem cell_block {w : World} {p : Addr} {v : Value} (h : w.cell? p = some v) : p.block < w.heap.size := by
  apply Nat.lt_of_not_le
  intro hc
  have : w.heap[p.block]? = none := Array.getElem?_eq_none hc
  unfold World.cell? at h
  simp [this] at h
/-- Elements that were read each for itself make a list. -/
theorem is_of {α : Type} [Inhabited α] (e : Enc α) (T : TypeId) (h0 : 0 < e.k) (w : World) (a : Addr) (len c : Nat) (good : α → Prop)
    (h : ∀ i, i < len → ∃ x cs, good x ∧ e.R (Bs.of w.heap.size) x cs w ∧ ∀ j u, cs[j]? = some u → w.cell? ((a.add (i * e.k)).add j) = some u) : ∃ l, Is e T (Bs.of w.heap.size) l (.slice (some a) len c) w ∧ l.length = len ∧ ∀ x ∈ l, good x := by
  classical
  have hg : ∀ i, ∃ x, i < len → good x ∧ ∃ cs, e.R (Bs.of w.heap.size) x cs w ∧ ∀ j u, cs[j]? = some u → w.cell? ((a.add (i * e.k)).add j) = some u := fun i => by
    by_cases hi : i < len
    · obtain ⟨x, cs, h1, h2, h3⟩ := h i hi; exact ⟨x, fun _ => ⟨h1, cs, h2, h3⟩⟩
    · exact ⟨default, fun e => absurd e hi⟩
  let f := fun i => Classical.choose (hg i)
  have hf : ∀ i, i < len → good (f i) ∧ ∃ cs, e.R (Bs.of w.heap.size) (f i) cs w ∧ ∀ j u, cs[j]? = some u → w.cell? ((a.add (i * e.k)).add j) = some u := fun i => Classical.choose_spec (hg i)
  have hlen : ((List.range len).map f).length = len := by simp
  refine ⟨(List.range len).map f, ⟨some a, c, by rw [hlen], ?_⟩, hlen, fun x hx => ?_⟩
  · by_cases e0 : len = 0
    · left; subst e0; exact ⟨rfl, fun e => by cases e⟩
    · right
      obtain ⟨_, cs, hR, hu⟩ := hf 0 (by omega)
      have h1 : 0 < cs.length := by rw [e.len hR]; exact h0
      have h2 := hu 0 _ (List.getElem?_eq_getElem h1)
      have h3 := World.cell?_spot h2
      obtain ⟨b, off, spot⟩ := a
      obtain rfl : spot = none := by simpa [Addr.add] using h3
      have h4 := cell_block h2
      rw [add_eq, add_eq] at h4
      refine ⟨b, off, rfl, h4, .inl h4, fun i x hx => ?_⟩
      have hi : i < len := by
        rcases Nat.lt_or_ge i len with h | h
        · exact h
        · rw [List.getElem?_eq_none (by rw [hlen]; exact h)] at hx; cases hx
      have e2 : f i = x := by simpa [hi] using hx
      subst e2
      obtain ⟨_, ds, hR2, hu2⟩ := hf i hi
      refine ⟨ds, hR2, fun j u hj => ?_⟩
      have := hu2 j u hj
      rwa [add_eq, add_eq] at this
  · obtain ⟨i, hi, rfl⟩ := List.mem_map.1 hx
    exact (hf i (List.mem_range.1 hi)).1
theorem one_of {H : Type} {en : TypeId × Value → H} {w : World} {base n : Nat} {sp : Nat → Bool} {held : Bool} {cs : List Value} {y : DataW H × List MemPlace} (j : Nat)
    (h : DataW.trod en Try.prog w base sp held n 3 ((cs.drop j).take 1) = some y) : ∃ x, cs[j]? = some (.int .i64 x) ∧ (Lit.int .i64 x).wf = true := by
  obtain ⟨x, e, _, hw⟩ := DataW.trod_int Try.underlying3 h
  refine ⟨x, ?_, hw⟩
  have e2 : ((cs.drop j).take 1)[0]? = some (.int .i64 x) := by rw [e]; rfl
  simpa using e2
theorem fld {H : Type} {en : TypeId × Value → H} {w : World} {base n o k : Nat} {sp : Nat → Bool} {held : Bool} {t : TypeId} {cs : List Value} {y : DataW H × List MemPlace} {f : Field} (ht : f.type = t) (ho : f.offset = o) (hk : Try.prog.cellsOf t = k)
    (h : DataW.trod en Try.prog w base sp held n f.type ((cs.drop f.offset).take (Try.prog.cellsOf f.type)) = some y) : DataW.trod en Try.prog w base sp held n t ((cs.drop o).take k) = some y := by
  subst ht ho hk; exact h
def wfI (x : Int) : Prop := (Lit.int .i64 x).wf = true
def wfO (o : Od) : Prop := wfI o.1 ∧ wfI o.2.1 ∧ wfI o.2.2.1 ∧ wfI o.2.2.2.1 ∧ wfI o.2.2.2.2
def wfL (v : Lv) : Prop := wfI v.1 ∧ ∀ o ∈ v.2, wfO o
def wfLs (l : List Lv) : Prop := l.length ≤ maxLen ∧ ∀ v ∈ l, wfL v
theorem open_os {H : Type} {en : TypeId × Value → H} {w : World} {base fuel : Nat} {sp : Nat → Bool} {held : Bool} {cs0 : List Value} {x : DataW H × List MemPlace}
    (h : DataW.trod en Try.prog w base sp held fuel 46 cs0 = some x) : ∃ l v, cs0 = [v] ∧ OL (Bs.of w.heap.size) l v w ∧ ∀ o ∈ l, wfO o := by
  rcases open_slice Try.underlying46 h with ⟨hcs, _⟩ | ⟨ad, len, cap, m, n', D, Pl, hcs, _, hl, _, hm, _, hi⟩
  · exact ⟨[], _, hcs, Is.nil _ _ _ _, by simp⟩
  · obtain ⟨l, h1, _, h2⟩ := is_of eO 31 (by decide) w ad len cap wfO fun i hlt => by
      obtain ⟨cs, hc, ht⟩ := hi i (by rw [hm]; split <;> omega)
      rw [cellsO5] at hc
      obtain ⟨_, hcl, hat⟩ := World.cells?_some hc
      obtain ⟨ys, n1, _, _, _, hyl, hf⟩ := DataW.trod_struct Try.underlying31 ht
      have g1 := fld (o := 0) (t := 3) rfl rfl cellsI ((hf 0 _ rfl).trans (List.getElem?_eq_getElem (by rw [hyl]; decide)))
      have g2 := fld (o := 1) (t := 3) rfl rfl cellsI ((hf 1 _ rfl).trans (List.getElem?_eq_getElem (by rw [hyl]; decide)))
      have g3 := fld (o := 2) (t := 3) rfl rfl cellsI ((hf 2 _ rfl).trans (List.getElem?_eq_getElem (by rw [hyl]; decide)))
      have g4 := fld (o := 3) (t := 3) rfl rfl cellsI ((hf 3 _ rfl).trans (List.getElem?_eq_getElem (by rw [hyl]; decide)))
      have g5 := fld (o := 4) (t := 3) rfl rfl cellsI ((hf 4 _ rfl).trans (List.getElem?_eq_getElem (by rw [hyl]; decide)))
      obtain ⟨x1, e1, w1⟩ := one_of 0 g1
      obtain ⟨x2, e2, w2⟩ := one_of 1 g2
      obtain ⟨x3, e3, w3⟩ := one_of 2 g3
      obtain ⟨x4, e4, w4⟩ := one_of 3 g4
      obtain ⟨x5, e5, w5⟩ := one_of 4 g5
      refine ⟨(x1, x2, x3, x4, x5), _, ⟨w1, w2, w3, w4, w5⟩, rfl, fun j u hu => ?_⟩
      show w.cell? ((ad.add (i * 5)).add j) = some u
      match j, hu with
      | 0, hu => obtain rfl := Option.some.inj hu; rw [hat 0 (by omega), e1]
      | 1, hu => obtain rfl := Option.some.inj hu; rw [hat 1 (by omega), e2]
      | 2, hu => obtain rfl := Option.some.inj hu; rw [hat 2 (by omega), e3]
      | 3, hu => obtain rfl := Option.some.inj hu; rw [hat 3 (by omega), e4]
      | 4, hu => obtain rfl := Option.some.inj hu; rw [hat 4 (by omega), e5]
      | j + 5, hu => cases hu
    exact ⟨l, _, hcs, h1, h2⟩
theorem open_ll {H : Type} {en : TypeId × Value → H} {w : World} {base fuel : Nat} {sp : Nat → Bool} {held : Bool} {a : Option Addr} {n c : Nat} {x : DataW H × List MemPlace}
    (h : DataW.trod en Try.prog w base sp held fuel 24 (Value.slice a n c).cells.toList = some x) : ∃ l, LL (Bs.of w.heap.size) l (.slice a n c) w ∧ wfLs l := by
  rcases open_slice Try.underlying24 h with ⟨hcs, _⟩ | ⟨ad, len, cap, m, n', D, Pl, hcs, _, hl, hcap, hm, _, hi⟩
  · simp [Value.cells] at hcs
    obtain ⟨rfl, rfl, rfl⟩ := hcs
    exact ⟨[], Is.nil _ _ _ _, Nat.zero_le _, by simp⟩
  · simp [Value.cells] at hcs
    obtain ⟨rfl, rfl, rfl⟩ := hcs
    suffices h : ∃ l, LL (Bs.of w.heap.size) l (.slice (some ad) n c) w ∧ l.length = n ∧ ∀ v ∈ l, wfL v by
      obtain ⟨l, h1, h2, h3⟩ := h
      exact ⟨l, h1, by omega, h3⟩
    refine is_of eL 48 (by decide) w ad n c wfL fun i hlt => ?_
    obtain ⟨cs, hc, ht⟩ := hi i (by rw [hm]; split <;> omega)
    rw [cellsL2] at hc
    obtain ⟨_, hcl, hat⟩ := World.cells?_some hc
    obtain ⟨ys, n1, _, _, _, hyl, hf⟩ := DataW.trod_struct Try.underlying48 ht
    have g1 := fld (o := 0) (t := 3) rfl rfl cellsI ((hf 0 _ rfl).trans (List.getElem?_eq_getElem (by rw [hyl]; decide)))
    have g2 := fld (o := 1) (t := 46) rfl rfl cellsOs ((hf 1 _ rfl).trans (List.getElem?_eq_getElem (by rw [hyl]; decide)))
    obtain ⟨x1, e1, w1⟩ := one_of 0 g1
    obtain ⟨os, v, e2, ho, hw⟩ := open_os g2
    have e3 : cs[1]? = some v := by
      have : ((cs.drop 1).take 1)[0]? = some v := by rw [e2]; rfl
      simpa using this
    refine ⟨(x1, os), _, ⟨w1, hw⟩, eL_mk ho, fun j u hu => ?_⟩
    show w.cell? ((ad.add (i * 2)).add j) = some u
    match j, hu with
    | 0, hu => obtain rfl := Option.some.inj hu; rw [hat 0 (by omega), e1]
    | 1, hu => obtain rfl := Option.some.inj hu; rw [hat 1 (by omega), e3]
    | j + 2, hu => cases hu
set_option maxRecDepth 8000 in
/-- An order that came in by value. -/
theorem open_o {H : Type} {enc : TypeId × Value → H} {W : World} {r : Reach} {base b0 : Nat} {sp : Nat → Bool} {held : Bool} {v : Value} {d : DataW H} {p : List MemPlace}
    (hv : Value.okWide Try.prog W r b0 31 v) (h : DataW.Trod enc Try.prog W base sp held 31 v d p) : ∃ a b c x y : Int, v = .agg #[.int .i64 a, .int .i64 b, .int .i64 c, .int .i64 x, .int .i64 y] ∧ wfO (a, b, c, x, y) := by
  obtain ⟨cs, rfl, hsz⟩ := okWide_struct Try.underlying31 hv
  obtain ⟨fuel, hf⟩ := h
  obtain ⟨ys, n1, _, _, _, hyl, hg⟩ := DataW.trod_struct Try.underlying31 hf
  rw [cellsO5] at hsz
  have g1 := fld (o := 0) (t := 3) rfl rfl cellsI ((hg 0 _ rfl).trans (List.getElem?_eq_getElem (by rw [hyl]; decide)))
  have g2 := fld (o := 1) (t := 3) rfl rfl cellsI ((hg 1 _ rfl).trans (List.getElem?_eq_getElem (by rw [hyl]; decide)))
  have g3 := fld (o := 2) (t := 3) rfl rfl cellsI ((hg 2 _ rfl).trans (List.getElem?_eq_getElem (by rw [hyl]; decide)))
  have g4 := fld (o := 3) (t := 3) rfl rfl cellsI ((hg 3 _ rfl).trans (List.getElem?_eq_getElem (by rw [hyl]; decide)))
  have g5 := fld (o := 4) (t := 3) rfl rfl cellsI ((hg 4 _ rfl).trans (List.getElem?_eq_getElem (by rw [hyl]; decide)))
  obtain ⟨x1, e1, w1⟩ := one_of 0 g1
  obtain ⟨x2, e2, w2⟩ := one_of 1 g2
  obtain ⟨x3, e3, w3⟩ := one_of 2 g3
  obtain ⟨x4, e4, w4⟩ := one_of 3 g4
  obtain ⟨x5, e5, w5⟩ := one_of 4 g5
  refine ⟨x1, x2, x3, x4, x5, ?_, w1, w2, w3, w4, w5⟩
  congr 1
  apply Array.ext_getElem?
  intro i
  have hl : (Value.agg cs).cells.toList = cs.toList := rfl
  rw [hl] at e1 e2 e3 e4 e5
  match i with
  | 0 => simpa using e1
  | 1 => simpa using e2
  | 2 => simpa using e3
  | 3 => simpa using e4
  | 4 => simpa using e5
  | i + 5 => rw [Array.getElem?_eq_none (by omega), Array.getElem?_eq_none (by simp)]
end Go.Proofs.Ytfnmmknbjfmagaa.Le
