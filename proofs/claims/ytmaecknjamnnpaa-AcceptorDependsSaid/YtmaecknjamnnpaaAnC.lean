/- Layer 19: messages in memory. -/
import Derived.Test.YtmaecknjamnnpaaAnPure
import Derived.Test.YtmaecknjamnnpaaInD
import Derived.Test.YtmaecknjamnnpaaRk
import Derived.Test.YtmaecknjamnnpaaBaC
namespace Go.Proofs.Ytmaecknjamnnpaa.An
open Go.RowKit
set_option linter.unusedVariables false
open Go.Proofs.Ytmaecknjamnnpaa.Rw
open Go.Proofs.Ytmaecknjamnnpaa.Bv
open Go.Proofs.Ytmaecknjamnnpaa.Rc (Ins ci cv zeroI nI nB nA isI isB isI_of isB_of fV qV dV run_part eqVal)
/-- The cells of a message. -/
def cg (m : Msg) : Array Value := #[.int .i64 m.k, .int .i64 m.f, .int .i64 m.t, .int .i64 m.pr, .int .i64 m.ps, .int .i64 m.bn, .int .i64 m.br, .int .i64 (m.c 0), .int .i64 (m.c 1), .int .i64 (m.c 2), .int .i64 (m.c 3), .int .i64 (m.c 4), .int .i64 (m.c 5), .int .i64 (m.c 6), .int .i64 (m.c 7), .int .i64 (m.c 8), .int .i64 m.q, .int .i64 (m.d 0), .int .i64 (m.d 1), .int .i64 (m.d 2), .int .i64 (m.d 3), .int .i64 (m.d 4), .int .i64 (m.d 5), .int .i64 (m.d 6), .int .i64 m.st, .int .i64 m.tn, .int .i64 m.tr, .bool m.sm]
theorem cg_size (m : Msg) : (cg m).size = 28 := rfl
theorem cg_place (m : Msg) : (cg m).extract 3 5 = #[.int .i64 m.pr, .int .i64 m.ps] := by simp [cg]
theorem cg_bal (m : Msg) : (cg m).extract 5 7 = #[.int .i64 m.bn, .int .i64 m.br] := by simp [cg]
theorem cg_val (m : Msg) : (cg m).extract 7 24 = cv m.c m.q m.d := by simp [cg, cv]
theorem cg_cmd (m : Msg) : (cg m).extract 7 16 = Cm.fc m.c := by simp [cg]; rfl
theorem cg_dep (m : Msg) : (cg m).extract 17 24 = Ve.fc m.d := by simp [cg]; rfl
theorem cg_taken (m : Msg) : (cg m).extract 25 27 = #[.int .i64 m.tn, .int .i64 m.tr] := by simp [cg]
theorem cg_all (m : Msg) : (cg m).extract 0 28 = cg m := by simp [cg]
attribute [go_sem] cg_size cg_place cg_bal cg_val cg_cmd cg_dep cg_taken cg_all
theorem cg_a0 (m : Msg) : (cg m)[0]? = some (.int .i64 m.k) := rfl
theorem cg_g0 (m : Msg) (h : 0 < (cg m).size) : (cg m)[0] = .int .i64 m.k := rfl
theorem cg_a1 (m : Msg) : (cg m)[1]? = some (.int .i64 m.f) := rfl
theorem cg_g1 (m : Msg) (h : 1 < (cg m).size) : (cg m)[1] = .int .i64 m.f := rfl
theorem cg_a2 (m : Msg) : (cg m)[2]? = some (.int .i64 m.t) := rfl
theorem cg_g2 (m : Msg) (h : 2 < (cg m).size) : (cg m)[2] = .int .i64 m.t := rfl
theorem cg_a16 (m : Msg) : (cg m)[16]? = some (.int .i64 m.q) := rfl
theorem cg_g16 (m : Msg) (h : 16 < (cg m).size) : (cg m)[16] = .int .i64 m.q := rfl
theorem cg_a24 (m : Msg) : (cg m)[24]? = some (.int .i64 m.st) := rfl
theorem cg_g24 (m : Msg) (h : 24 < (cg m).size) : (cg m)[24] = .int .i64 m.st := rfl
theorem cg_a27 (m : Msg) : (cg m)[27]? = some (.bool m.sm) := rfl
theorem cg_g27 (m : Msg) (h : 27 < (cg m).size) : (cg m)[27] = .bool m.sm := rfl
attribute [go_sem] cg_a0 cg_g0 cg_a1 cg_g1 cg_a2 cg_g2 cg_a16 cg_g16 cg_a24 cg_g24 cg_a27 cg_g27
theorem cg_one (m : Msg) : oneAll (.agg (cg m)) = true := by
  show (cg m).all (·.oneCell') = true
  rw [← Array.all_toList]; rfl
attribute [go_sem] cg_one
theorem one2 (x y : Int) : oneAll (.agg #[.int .i64 x, .int .i64 y]) = true := by simp [oneAll, Value.cells, Value.oneCell']
attribute [go_sem] one2
theorem agg28 (k f t pr ps bn br c0 c1 c2 c3 c4 c5 c6 c7 c8 q d0 d1 d2 d3 d4 d5 d6 st tn tr : Int) (b : Bool) : Value.agg #[.int .i64 k, .int .i64 f, .int .i64 t, .int .i64 pr, .int .i64 ps, .int .i64 bn, .int .i64 br, .int .i64 c0, .int .i64 c1, .int .i64 c2, .int .i64 c3, .int .i64 c4, .int .i64 c5, .int .i64 c6, .int .i64 c7, .int .i64 c8, .int .i64 q, .int .i64 d0, .int .i64 d1, .int .i64 d2, .int .i64 d3, .int .i64 d4, .int .i64 d5, .int .i64 d6, .int .i64 st, .int .i64 tn, .int .i64 tr, .bool b] =
    .agg (cg ⟨k, f, t, pr, ps, bn, br, Cm.v9 c0 c1 c2 c3 c4 c5 c6 c7 c8, q, Rc.v7 d0 d1 d2 d3 d4 d5 d6, st, tn, tr, b⟩) := rfl
theorem zG : ∀ w, (zeroValue 34).run Try.prog w = .ok (.agg (cg zeroM)) w := (zero_of_info (n := 28) (by kernel_rfl)).1
section
variable (ρ : Operand → Value) (dst : Option Tmp) (ty : TypeId) (pos : String) (after : Array Edge) (guard : Option (Nat × Bool)) (w : World)
theorem ldG (x : Operand) (h : (Rc.part 28 w (ρ x)).size = 28) : (execOp ρ { dst, op := .load 34 x, type := ty, pos, after, guard }).run Try.prog w = .ok (.value (.agg (Rc.part 28 w (ρ x)))) w := by
  simp [execOp, run_part (n := 27) Try.underlying34 rfl (by kernel_rfl) h]
theorem allocG : (execOp ρ { dst, op := .alloc 34, type := ty, pos, after, guard }).run Try.prog w = .ok (.value (.pointer (some ⟨w.heap.size, 0, none⟩))) (w.alloc (.cells (cg zeroM) 34)) :=
  exec_alloc ρ dst ty pos after guard w zG
theorem storeG (p x : Operand) (h : plainAt 28 w (ρ p) = true) (hs : (ρ x).cells.size = 28) (h1 : oneAll (ρ x) = true) (ha : ρ x = .agg (ρ x).cells) : (execOp ρ { dst, op := .store 34 p x, type := ty, pos, after, guard }).run Try.prog w = .ok .skip (putRow w (ρ p) (ρ x).cells) :=
  exec_store (n := 27) ρ dst ty pos after guard w (by kernel_rfl) p x h hs h1 ha
theorem storeMidB (p x : Operand) (h : thereOf w (ρ p) 2) (hs : (ρ x).cells.size = 2) (h1 : oneAll (ρ x) = true) (ha : ρ x = .agg (ρ x).cells) : (execOp ρ { dst, op := .store 26 p x, type := ty, pos, after, guard }).run Try.prog w = .ok .skip (putMid w (ρ p) (ρ x).cells) :=
  storeMid (by kernel_rfl) ρ dst ty pos after guard w p x h hs h1 ha
theorem storeMidVa (p x : Operand) (h : thereOf w (ρ p) 17) (hs : (ρ x).cells.size = 17) (h1 : oneAll (ρ x) = true) (ha : ρ x = .agg (ρ x).cells) : (execOp ρ { dst, op := .store 32 p x, type := ty, pos, after, guard }).run Try.prog w = .ok .skip (putMid w (ρ p) (ρ x).cells) :=
  storeMid (by kernel_rfl) ρ dst ty pos after guard w p x h hs h1 ha
theorem storeMidD (p x : Operand) (h : thereOf w (ρ p) 7) (hs : (ρ x).cells.size = 7) (h1 : oneAll (ρ x) = true) (ha : ρ x = .agg (ρ x).cells) : (execOp ρ { dst, op := .store 30 p x, type := ty, pos, after, guard }).run Try.prog w = .ok .skip (putMid w (ρ p) (ρ x).cells) :=
  storeMid (by kernel_rfl) ρ dst ty pos after guard w p x h hs h1 ha
theorem buildG0 : (execOp ρ { dst, op := .build 34 #[], type := ty, pos, after, guard }).run Try.prog w = .ok (.value (.agg (cg zeroM))) w := by
  have := run_build (P := Try.prog) w 34 #[] (cg zeroM) (by kernel_rfl)
  simp [execOp, this]
theorem buildG4 (x y z s : Operand) (hx : isI (ρ x) = true) (hy : isI (ρ y) = true) (hz : isI (ρ z) = true) (hs : ρ s = .agg #[.int .i64 (nA (ρ s) 0), .int .i64 (nA (ρ s) 1)]) : (execOp ρ { dst, op := .build 34 #[(0, x), (1, y), (2, z), (3, s)], type := ty, pos, after, guard }).run Try.prog w = .ok (.value (.agg (cg ⟨nI (ρ x), nI (ρ y), nI (ρ z), nA (ρ s) 0, nA (ρ s) 1, 0, 0, Cm.zeroF, 0, Ve.zeroV, 0, 0, 0, false⟩))) w := by
  replace hx := isI_of hx
  generalize nI (ρ x) = fx at hx ⊢
  replace hy := isI_of hy
  generalize nI (ρ y) = fy at hy ⊢
  replace hz := isI_of hz
  generalize nI (ρ z) = fz at hz ⊢
  generalize nA (ρ s) 0 = fs at hs ⊢
  generalize nA (ρ s) 1 = gs at hs ⊢
  have := run_build (P := Try.prog) w 34 #[(0, .int .i64 fx), (1, .int .i64 fy), (2, .int .i64 fz), (3, .agg #[.int .i64 fs, .int .i64 gs])] (cg ⟨fx, fy, fz, fs, gs, 0, 0, Cm.zeroF, 0, Ve.zeroV, 0, 0, 0, false⟩) (by kernel_rfl)
  simp [execOp, hx, hy, hz, hs, this]
theorem buildG9 (x y z s b v u t e : Operand) (hx : isI (ρ x) = true) (hy : isI (ρ y) = true) (hz : isI (ρ z) = true) (hs : ρ s = .agg #[.int .i64 (nA (ρ s) 0), .int .i64 (nA (ρ s) 1)]) (hb : ρ b = .agg #[.int .i64 (nA (ρ b) 0), .int .i64 (nA (ρ b) 1)]) (hv : ρ v = .agg (cv (fV (ρ v)) (qV (ρ v)) (dV (ρ v)))) (hu : isI (ρ u) = true) (ht : ρ t = .agg #[.int .i64 (nA (ρ t) 0), .int .i64 (nA (ρ t) 1)]) (he : isB (ρ e) = true) : (execOp ρ { dst, op := .build 34 #[(0, x), (1, y), (2, z), (3, s), (4, b), (5, v), (6, u), (7, t), (8, e)], type := ty, pos, after, guard }).run Try.prog w = .ok (.value (.agg (cg ⟨nI (ρ x), nI (ρ y), nI (ρ z), nA (ρ s) 0, nA (ρ s) 1, nA (ρ b) 0, nA (ρ b) 1, fV (ρ v), qV (ρ v), dV (ρ v), nI (ρ u), nA (ρ t) 0, nA (ρ t) 1, nB (ρ e)⟩))) w := by
  replace hx := isI_of hx
  generalize nI (ρ x) = fx at hx ⊢
  replace hy := isI_of hy
  generalize nI (ρ y) = fy at hy ⊢
  replace hz := isI_of hz
  generalize nI (ρ z) = fz at hz ⊢
  generalize nA (ρ s) 0 = fs at hs ⊢
  generalize nA (ρ s) 1 = gs at hs ⊢
  generalize nA (ρ b) 0 = fb at hb ⊢
  generalize nA (ρ b) 1 = gb at hb ⊢
  generalize fV (ρ v) = fv at hv ⊢
  generalize qV (ρ v) = gv at hv ⊢
  generalize dV (ρ v) = kv at hv ⊢
  replace hu := isI_of hu
  generalize nI (ρ u) = fu at hu ⊢
  generalize nA (ρ t) 0 = ft at ht ⊢
  generalize nA (ρ t) 1 = gt at ht ⊢
  replace he := isB_of he
  generalize nB (ρ e) = fe at he ⊢
  have := run_build (P := Try.prog) w 34 #[(0, .int .i64 fx), (1, .int .i64 fy), (2, .int .i64 fz), (3, .agg #[.int .i64 fs, .int .i64 gs]), (4, .agg #[.int .i64 fb, .int .i64 gb]), (5, .agg (cv fv gv kv)), (6, .int .i64 fu), (7, .agg #[.int .i64 ft, .int .i64 gt]), (8, .bool fe)] (cg ⟨fx, fy, fz, fs, gs, fb, gb, fv, gv, kv, fu, ft, gt, fe⟩) (by kernel_rfl)
  simp [execOp, hx, hy, hz, hs, hb, hv, hu, ht, he, this]
theorem buildT5 (x s t y v : Operand) (hx : ρ x = .agg #[.int .i64 (nA (ρ x) 0), .int .i64 (nA (ρ x) 1)]) (hs : ρ s = .agg #[.int .i64 (nA (ρ s) 0), .int .i64 (nA (ρ s) 1)]) (ht : ρ t = .agg #[.int .i64 (nA (ρ t) 0), .int .i64 (nA (ρ t) 1)]) (hy : isI (ρ y) = true) (hv : ρ v = .agg (cv (fV (ρ v)) (qV (ρ v)) (dV (ρ v)))) : (execOp ρ { dst, op := .build 37 #[(0, x), (1, s), (2, t), (3, y), (4, v)], type := ty, pos, after, guard }).run Try.prog w = .ok (.value (.agg (ci ⟨nA (ρ x) 0, nA (ρ x) 1, nA (ρ s) 0, nA (ρ s) 1, nA (ρ t) 0, nA (ρ t) 1, nI (ρ y), fV (ρ v), qV (ρ v), dV (ρ v), false⟩))) w := by
  generalize nA (ρ x) 0 = fx at hx ⊢
  generalize nA (ρ x) 1 = gx at hx ⊢
  generalize nA (ρ s) 0 = fs at hs ⊢
  generalize nA (ρ s) 1 = gs at hs ⊢
  generalize nA (ρ t) 0 = ft at ht ⊢
  generalize nA (ρ t) 1 = gt at ht ⊢
  replace hy := isI_of hy
  generalize nI (ρ y) = fy at hy ⊢
  generalize fV (ρ v) = fv at hv ⊢
  generalize qV (ρ v) = gv at hv ⊢
  generalize dV (ρ v) = kv at hv ⊢
  have := run_build (P := Try.prog) w 37 #[(0, .agg #[.int .i64 fx, .int .i64 gx]), (1, .agg #[.int .i64 fs, .int .i64 gs]), (2, .agg #[.int .i64 ft, .int .i64 gt]), (3, .int .i64 fy), (4, .agg (cv fv gv kv))] (ci ⟨fx, gx, fs, gs, ft, gt, fy, fv, gv, kv, false⟩) (by kernel_rfl)
  simp [execOp, hx, hs, ht, hy, hv, this]
end
section
variable (a : Act) (dst : Option Tmp) (ty : TypeId) (pos : String) (after : Array Edge) (guard : Option (Nat × Bool)) (w : World)
theorem buildT5c (x s t v : Operand) (hx : a.eval x = .agg #[.int .i64 (nA (a.eval x) 0), .int .i64 (nA (a.eval x) 1)]) (hs : a.eval s = .agg #[.int .i64 (nA (a.eval s) 0), .int .i64 (nA (a.eval s) 1)]) (ht : a.eval t = .agg #[.int .i64 (nA (a.eval t) 0), .int .i64 (nA (a.eval t) 1)]) (hv : a.eval v = .agg (cv (fV (a.eval v)) (qV (a.eval v)) (dV (a.eval v)))) : (execOp a.eval { dst, op := .build 37 #[(0, x), (1, s), (2, t), (3, .const (.int .i64 1)), (4, v)], type := ty, pos, after, guard }).run Try.prog w = .ok (.value (.agg (ci ⟨nA (a.eval x) 0, nA (a.eval x) 1, nA (a.eval s) 0, nA (a.eval s) 1, nA (a.eval t) 0, nA (a.eval t) 1, 1, fV (a.eval v), qV (a.eval v), dV (a.eval v), false⟩))) w := by
  have := buildT5 a.eval dst ty pos after guard w x s t (.const (.int .i64 1)) v hx hs ht rfl hv
  exact this
theorem buildT6c (x s t v z : Operand) (hx : a.eval x = .agg #[.int .i64 (nA (a.eval x) 0), .int .i64 (nA (a.eval x) 1)]) (hs : a.eval s = .agg #[.int .i64 (nA (a.eval s) 0), .int .i64 (nA (a.eval s) 1)]) (ht : a.eval t = .agg #[.int .i64 (nA (a.eval t) 0), .int .i64 (nA (a.eval t) 1)]) (hv : a.eval v = .agg (cv (fV (a.eval v)) (qV (a.eval v)) (dV (a.eval v)))) (hz : isB (a.eval z) = true) : (execOp a.eval { dst, op := .build 37 #[(0, x), (1, s), (2, t), (3, .const (.int .i64 1)), (4, v), (5, z)], type := ty, pos, after, guard }).run Try.prog w = .ok (.value (.agg (ci ⟨nA (a.eval x) 0, nA (a.eval x) 1, nA (a.eval s) 0, nA (a.eval s) 1, nA (a.eval t) 0, nA (a.eval t) 1, 1, fV (a.eval v), qV (a.eval v), dV (a.eval v), nB (a.eval z)⟩))) w := by
  have := Rc.buildI6 a.eval dst ty pos after guard w x s t (.const (.int .i64 1)) v z hx hs ht rfl hv hz
  exact this
end
attribute [go_sem ↓] Ba.eqlB Ba.neqB Ba.guardB ldG allocG storeG storeMidB storeMidVa storeMidD buildG0 buildG4 buildG9 buildT5 buildT5c buildT6c
theorem ret_G {fn : Func} {p : Tmp} (h : fn.results = #[.cell p 34]) (tmps : Array Value) (w : World) (m : Msg) (hr : rowOf w (tmps.getD p undef) = cg m) : (results fn tmps).run Try.prog w = .ok (.agg (cg m)) w :=
  ret1 (n := 27) h Try.underlying34 rfl (by kernel_rfl) tmps w rfl hr
theorem ret_IG3 {fn : Func} {p q r : Tmp} (h : fn.results = #[.cell p 37, .cell q 34, .tmp r]) (tmps : Array Value) (w : World) (i : Ins) (m : Msg) (hr : rowOf w (tmps.getD p undef) = ci i) (hq : rowOf w (tmps.getD q undef) = cg m) : (results fn tmps).run Try.prog w = .ok (.tuple #[.agg (ci i), .agg (cg m), tmps.getD r undef]) w := by
  obtain ⟨b, e, hl⟩ := read_cell (T := 37) (n := 24) Try.underlying37 rfl (by kernel_rfl) hr rfl
  obtain ⟨b2, e2, hl2⟩ := read_cell (T := 34) (n := 27) Try.underlying34 rfl (by kernel_rfl) hq rfl
  have hp' : tmps[p]?.getD undef = .pointer (some ⟨b, 0, none⟩) := by simpa using e
  have hq' : tmps[q]?.getD undef = .pointer (some ⟨b2, 0, none⟩) := by simpa using e2
  simp [results, h, hp', hq', asAddr, hl, hl2]
theorem ret_IG4 {fn : Func} {p q r s : Tmp} (h : fn.results = #[.cell p 37, .cell q 34, .tmp r, .tmp s]) (tmps : Array Value) (w : World) (i : Ins) (m : Msg) (hr : rowOf w (tmps.getD p undef) = ci i) (hq : rowOf w (tmps.getD q undef) = cg m) : (results fn tmps).run Try.prog w = .ok (.tuple #[.agg (ci i), .agg (cg m), tmps.getD r undef, tmps.getD s undef]) w := by
  obtain ⟨b, e, hl⟩ := read_cell (T := 37) (n := 24) Try.underlying37 rfl (by kernel_rfl) hr rfl
  obtain ⟨b2, e2, hl2⟩ := read_cell (T := 34) (n := 27) Try.underlying34 rfl (by kernel_rfl) hq rfl
  have hp' : tmps[p]?.getD undef = .pointer (some ⟨b, 0, none⟩) := by simpa using e
  have hq' : tmps[q]?.getD undef = .pointer (some ⟨b2, 0, none⟩) := by simpa using e2
  simp [results, h, hp', hq', asAddr, hl, hl2]
theorem same_val (c : Nat → Int) (q : Int) (d : Nat → Int) (c' : Nat → Int) (q' : Int) (d' : Nat → Int) : sameV c q d c' q' d' = eqVal c q d c' q' d' := rfl
end Go.Proofs.Ytmaecknjamnnpaa.An
/- Layer 19: package acceptor's Settled, Stale, taken, mayBe, commit. -/
namespace Go.Proofs.Ytmaecknjamnnpaa.An
open Go.RowKit
set_option linter.unusedVariables false
open Go.Proofs.Ytmaecknjamnnpaa.Rw
open Go.Proofs.Ytmaecknjamnnpaa.Bv
open Go.Proofs.Ytmaecknjamnnpaa.Rc (Ins ci cv zeroI okI)
open Go.Proofs.Ytmaecknjamnnpaa.Ba (lessB latN latR)
/-- A message in a variable: what the walk reads of it. -/
structure Gx (w : World) (b : Nat) (m : Msg) : Prop where
  bx : Bx w b (cg m) 34
theorem Gx.facts {w : World} {b : Nat} {m : Msg} (h : Gx w b m) : row w b = cg m ∧ w.cell? ⟨b, 0, none⟩ = some (.int .i64 m.k) ∧ w.cell? ⟨b, 1, none⟩ = some (.int .i64 m.f) ∧ w.cell? ⟨b, 2, none⟩ = some (.int .i64 m.t) ∧ w.cell? ⟨b, 16, none⟩ = some (.int .i64 m.q) ∧ w.cell? ⟨b, 24, none⟩ = some (.int .i64 m.st) ∧ w.cell? ⟨b, 27, none⟩ = some (.bool m.sm) ∧ plain 28 w b = true ∧ b < w.heap.size :=
  ⟨h.bx.row, h.bx.cell 0, h.bx.cell 1, h.bx.cell 2, h.bx.cell 16, h.bx.cell 24, h.bx.cell 27, h.bx.plain rfl, h.bx.lt⟩
theorem Gx.stays {w w' : World} {b : Nat} {m : Msg} (h : Gx w b m) (k : Below w.heap.size w w') : Gx w' b m := ⟨h.bx.stays k⟩
theorem Gx.low {n : Nat} {w w' : World} {b : Nat} {m : Msg} (h : Gx w b m) (k : Below n w w') (hb : b < n) : Gx w' b m := ⟨h.bx.low k hb⟩
/-- An instance in a variable. -/
structure Ix (w : World) (b : Nat) (i : Ins) : Prop where
  bx : Bx w b (ci i) 37
theorem Ix.facts {w : World} {b : Nat} {i : Ins} (h : Ix w b i) : row w b = ci i ∧ w.cell? ⟨b, 6, none⟩ = some (.int .i64 i.st) ∧ w.cell? ⟨b, 16, none⟩ = some (.int .i64 i.q) ∧ w.cell? ⟨b, 24, none⟩ = some (.bool i.sm) ∧ plain 25 w b = true ∧ b < w.heap.size :=
  ⟨h.bx.row, h.bx.cell 6, h.bx.cell 16, h.bx.cell 24, h.bx.plain rfl, h.bx.lt⟩
theorem Ix.stays {w w' : World} {b : Nat} {i : Ins} (h : Ix w b i) (k : Below w.heap.size w w') : Ix w' b i := ⟨h.bx.stays k⟩
theorem Ix.low {n : Nat} {w w' : World} {b : Nat} {i : Ins} (h : Ix w b i) (k : Below n w w') (hb : b < n) : Ix w' b i := ⟨h.bx.low k hb⟩
set_option maxHeartbeats 800000 in
theorem settled_any (i : Ins) (w : World) :
    Calls Try.prog 11 #[.agg (ci i)] w fun e w' => e = .returned (.bool (i.st == 3)) ∧ Below w.heap.size w w' := by
  go_enter Try.func11, Try.ntmps11
  go_wp2
  go_ret
  exact ⟨rfl, below1 _ _⟩
theorem settled_is {i : Ins} {b : Bool} (H : Hid ((i.st == 3) = b)) (w : World) :
    Calls Try.prog 11 #[.agg (ci i)] w fun e w' => e = .returned (.bool b) ∧ Below w.heap.size w w' := by
  rw [← H.out]; exact settled_any i w
set_option maxHeartbeats 800000 in
theorem stale_any (i : Ins) (a b : Int) (w : World) :
    Calls Try.prog 13 #[.agg (ci i), .agg #[.int .i64 a, .int .i64 b]] w fun e w' => e = .returned (.bool (staleB i a b)) ∧ Below w.heap.size w w' := by
  obtain ⟨x, hx⟩ : ∃ x, staleB i a b = x := ⟨_, rfl⟩
  rw [hx]
  have H : lessB a b i.bn i.br = x := hx
  have HH := Lib.hid H
  clear hx H
  go_enter Try.func13, Try.ntmps13
  go_wp2_with fail
  refine (Ba.less_is _ _ _ _ _ HH.out _).mono ?_
  rintro e w1 ⟨rfl, hb1⟩
  go_wp2
  go_ret
  exact ⟨rfl, nx (below2 _ _ _) hb1⟩
theorem stale_is {i : Ins} {a b : Int} {x : Bool} (H : Hid (staleB i a b = x)) (w : World) :
    Calls Try.prog 13 #[.agg (ci i), .agg #[.int .i64 a, .int .i64 b]] w fun e w' => e = .returned (.bool x) ∧ Below w.heap.size w w' := by
  rw [← H.out]; exact stale_any i a b w
set_option maxRecDepth 8000 in
set_option maxHeartbeats 2000000 in
theorem taken_any (m : Msg) (s : Int) (w : World) :
    Calls Try.prog 42 #[.agg (cg m), .int .i64 s] w fun e w' => e = .returned (.agg (ci (takenI m s))) ∧ Below w.heap.size w w' := by
  have HT := Lib.hid (show ci ⟨m.pr, m.ps, m.bn, m.br, m.bn, m.br, s, m.c, m.q, m.d, false⟩ = ci (takenI m s) from rfl)
  obtain ⟨V, hV⟩ : ∃ Q_ : World, w.alloc (.cells (cg m) 34) = Q_ := ⟨_, rfl⟩
  have bV : Below w.heap.size w V := hV ▸ below1 _ _
  have gV : Gx V w.heap.size m := ⟨hV ▸ Bx.new _ _ _⟩
  obtain ⟨U, hU⟩ : ∃ Q_ : World, V.alloc (.cells (ci zeroI) 37) = Q_ := ⟨_, rfl⟩
  have bU : Below V.heap.size V U := hU ▸ below1 _ _
  have iU : Ix U V.heap.size zeroI := ⟨hU ▸ Bx.new _ _ _⟩
  have gU := gV.stays bU
  have bwU := nx bV bU
  have hle : w.heap.size ≤ V.heap.size := bV.size
  obtain ⟨r1, -, -, -, -, -, -, -, l1⟩ := gU.facts
  obtain ⟨-, -, -, -, p2, -⟩ := iU.facts
  clear gV gU bV bU
  go_enter Try.func42, Try.ntmps42
  go_wp2
  exact bodyPost_ret (v := .agg (ci (takenI m s))) (Rc.ret_I Try.results42 _ _ (takenI m s) (iU.bx.put _).row) rfl ⟨rfl, below_setRow bwU hle _⟩
set_option maxRecDepth 8000 in
set_option maxHeartbeats 2000000 in
theorem mayBe_any (m : Msg) (n : Int) (w : World) :
    Calls Try.prog 24 #[.agg (cg m), .int .i64 n] w fun e w' => e = .returned (.bool (mayB m n)) ∧ Below w.heap.size w w' := by
  obtain ⟨x, hx⟩ : ∃ x, okI (takenI m 1) n = x := ⟨_, rfl⟩
  have HX := Lib.hid hx
  have HM : Hid (mayB m n = (kindB m.k && x)) := Lib.hid (by rw [← hx]; rfl)
  obtain ⟨V, hV⟩ : ∃ Q_ : World, w.alloc (.cells (cg m) 34) = Q_ := ⟨_, rfl⟩
  have bV : Below w.heap.size w V := hV ▸ below1 _ _
  have gV : Gx V w.heap.size m := ⟨hV ▸ Bx.new _ _ _⟩
  obtain ⟨r1, k0, -, -, -, -, -, -, l1⟩ := gV.facts
  obtain ⟨k, hk⟩ : ∃ k, m.k = k := ⟨_, rfl⟩
  rw [hk] at k0
  have HK := Lib.hid hk
  clear gV hx hk
  rw [HM.out, HK.out]
  have go : ∀ w1, Below w.heap.size w w1 → True := fun _ _ => trivial
  by_cases h : k = 1 ∨ k = 3 ∨ k = 5 ∨ k = 6
  · have HB : Hid ((kindB k && x) = x) := Lib.hid (by unfold kindB; rw [decide_eq_true h]; rfl)
    rw [HB.out]
    rcases h with h | h | h | h
    all_goals
      subst h
      go_enter Try.func24, Try.ntmps24
      go_wp2_with fail
      refine (taken_any m 1 V).mono ?_
      rintro e w1 ⟨rfl, hb1⟩
      go_wp2_with fail
      refine (Rc.right_is HX _).mono ?_
      rintro e w2 ⟨rfl, hb2⟩
      go_wp2
      go_ret
      exact ⟨rfl, nx (nx bV hb1) hb2⟩
  · have HB : Hid ((kindB k && x) = false) := Lib.hid (by unfold kindB; rw [decide_eq_false h]; rfl)
    rw [HB.out]
    have h1 : (k == 1) = false := by simp; omega
    have h3 : (k == 3) = false := by simp; omega
    have h5 : (k == 5) = false := by simp; omega
    have h6 : (k == 6) = false := by simp; omega
    clear h
    go_enter Try.func24, Try.ntmps24
    go_wp2
    go_ret
    exact ⟨rfl, bV⟩
theorem mayBe_is {m : Msg} {n : Int} {x : Bool} (H : Hid (mayB m n = x)) (w : World) :
    Calls Try.prog 24 #[.agg (cg m), .int .i64 n] w fun e w' => e = .returned (.bool x) ∧ Below w.heap.size w w' := by
  rw [← H.out]; exact mayBe_any m n w
theorem over_prom (i : Ins) (a b : Int) : over (ci i) 2 [.int .i64 a, .int .i64 b] = ci { i with bn := a, br := b } := rfl
set_option maxRecDepth 8000 in
set_option maxHeartbeats 4000000 in
theorem commit_any (i : Ins) (m : Msg) (w : World) :
    Calls Try.prog 43 #[.agg (ci i), .agg (cg m)] w fun e w' => e = .returned (.agg (ci (commitI i m))) ∧ Below w.heap.size w w' := by
  obtain ⟨A0, hA0⟩ : ∃ Q_ : World, w.alloc (.cells (ci i) 37) = Q_ := ⟨_, rfl⟩
  have bA : Below w.heap.size w A0 := hA0 ▸ below1 _ _
  have iA : Ix A0 w.heap.size i := ⟨hA0 ▸ Bx.new _ _ _⟩
  obtain ⟨V, hV⟩ : ∃ Q_ : World, A0.alloc (.cells (cg m) 34) = Q_ := ⟨_, rfl⟩
  have bV : Below A0.heap.size A0 V := hV ▸ below1 _ _
  have gV : Gx V A0.heap.size m := ⟨hV ▸ Bx.new _ _ _⟩
  obtain ⟨U, hU⟩ : ∃ Q_ : World, V.alloc (.cells (ci zeroI) 37) = Q_ := ⟨_, rfl⟩
  have bU : Below V.heap.size V U := hU ▸ below1 _ _
  have oU : Ix U V.heap.size zeroI := ⟨hU ▸ Bx.new _ _ _⟩
  have gU := gV.stays bU
  have iU := (iA.stays bV).stays bU
  have bwU := nx (nx bA bV) bU
  have hl1 : w.heap.size < A0.heap.size := iA.bx.lt
  have hl2 : A0.heap.size < V.heap.size := gV.bx.lt
  have hl3 : V.heap.size < U.heap.size := oU.bx.lt
  obtain ⟨r1, -, -, -, -, l1⟩ := iU.facts
  clear iA gV bA bV bU
  by_cases h3 : i.st = 3
  · have HS : Hid ((i.st == 3) = true) := Lib.hid (by simpa using h3)
    have HC : Hid (commitI i m = i) := Lib.hid (if_pos h3)
    clear h3
    rw [HC.out]
    go_enter Try.func43, Try.ntmps43
    go_wp2_with fail
    refine (settled_is HS _).mono ?_
    rintro e w1 ⟨rfl, hb1⟩
    have i1 := iU.stays hb1
    have o1 := oU.stays hb1
    obtain ⟨r2, -, -, -, -, l2⟩ := i1.facts
    obtain ⟨-, -, -, -, p2, -⟩ := o1.facts
    clear r1 l1
    go_wp2
    exact bodyPost_ret (v := .agg (ci i)) (Rc.ret_I Try.results43 _ _ i (o1.bx.put _).row) rfl ⟨rfl, below_setRow (nx bwU hb1) (by omega) _⟩
  · have HS : Hid ((i.st == 3) = false) := Lib.hid (by simpa using h3)
    obtain ⟨a, ha⟩ : ∃ a, latN m.bn m.br i.bn i.br = a := ⟨_, rfl⟩
    obtain ⟨b, hb⟩ : ∃ b, latR m.bn m.br i.bn i.br = b := ⟨_, rfl⟩
    have HL := Lib.hid (And.intro ha hb)
    obtain ⟨j, hj⟩ : ∃ j, commitI i m = j := ⟨_, rfl⟩
    have HJ : Hid (ci { takenI m 3 with bn := a, br := b } = ci j) := Lib.hid (by rw [← hj, ← ha, ← hb]; unfold commitI; rw [if_neg h3]; rfl)
    rw [hj]
    clear h3 ha hb hj
    go_enter Try.func43, Try.ntmps43
    go_wp2_with fail
    refine (settled_is HS _).mono ?_
    rintro e w1 ⟨rfl, hb1⟩
    have i1 := iU.stays hb1
    have o1 := oU.stays hb1
    have g1 := gU.stays hb1
    obtain ⟨r2, -, -, -, -, -, -, -, l2⟩ := g1.facts
    clear r1 l1
    go_wp2_with fail
    refine (taken_any m 3 w1).mono ?_
    rintro e w2 ⟨rfl, hb2⟩
    have i2 := i1.stays hb2
    have o2 := o1.stays hb2
    have g2 := g1.stays hb2
    obtain ⟨X, hX⟩ : ∃ Q_ : World, (w2.alloc (.cells (ci zeroI) 37)).setRow w2.heap.size (ci (takenI m 3)) = Q_ := ⟨_, rfl⟩
    have xX : Ix X w2.heap.size (takenI m 3) := ⟨hX ▸ Bx.put (Bx.new _ _ _) _⟩
    have bX : Below w2.heap.size w2 X := hX ▸ below_setRow (below1 _ _) (Nat.le_refl _) _
    have hplain := (Bx.new w2 (ci zeroI) 37).plain (n := 25) rfl
    have i3 := i2.stays bX
    have o3 := o2.stays bX
    have g3 := g2.stays bX
    obtain ⟨r3, -, -, -, -, l3⟩ := i3.facts
    obtain ⟨r4, -, -, -, -, -, -, -, l4⟩ := g3.facts
    clear r2 l2
    go_wp2_with fail
    refine (Ba.later_is _ _ _ _ _ _ HL.out X).mono ?_
    rintro e w3 ⟨rfl, hb3⟩
    have x4 := xX.stays hb3
    have o4 := o3.stays hb3
    have t4 := x4.bx.there (o := 2) (n := 2) (by show 4 ≤ 25; decide)
    obtain ⟨Y, hY⟩ : ∃ Q_ : World, w3.setCells w2.heap.size 2 [.int .i64 a, .int .i64 b] = Q_ := ⟨_, rfl⟩
    have yY : Bx Y w2.heap.size (ci { takenI m 3 with bn := a, br := b }) 37 := by
      have := Bx.sets (w := w3) [.int .i64 a, .int .i64 b] 2 w3 _ x4.bx
      rw [over_prom] at this
      exact hY ▸ this
    have hl4 : V.heap.size < w2.heap.size := o2.bx.lt
    have o5 : Bx Y V.heap.size (ci zeroI) 37 := hY ▸ Bx.sets' (by omega) _ _ _ o4.bx
    have hw2 := nx (nx (nx bwU hb1) hb2) bX
    have bY : Below w.heap.size w Y := hY ▸ (nx hw2 hb3).trans (low_setCells (by omega) _ _ _)
    rw [HJ.out] at yY
    have ry := yY.row
    have py := o5.plain (n := 25) rfl
    clear r3 r4 l3 l4
    go_wp2
    exact bodyPost_ret (v := .agg (ci j)) (Rc.ret_I Try.results43 _ _ j (o5.put _).row) rfl ⟨rfl, below_setRow bY (by omega) _⟩
theorem commit_is {i j : Ins} {m : Msg} (H : Hid (commitI i m = j)) (w : World) :
    Calls Try.prog 43 #[.agg (ci i), .agg (cg m)] w fun e w' => e = .returned (.agg (ci j)) ∧ Below w.heap.size w w' := by
  rw [← H.out]; exact commit_any i m w
end Go.Proofs.Ytmaecknjamnnpaa.An
/- Layer 19: package acceptor's response. -/
namespace Go.Proofs.Ytmaecknjamnnpaa.An
open Go.RowKit
set_option linter.unusedVariables false
open Go.Proofs.Ytmaecknjamnnpaa.Rw
open Go.Proofs.Ytmaecknjamnnpaa.Bv
open Go.Proofs.Ytmaecknjamnnpaa.Rc (Ins ci cv zeroI okI)
/-- What stays while an answer is put together in block b. -/
structure SR (w : World) (m : Msg) (i : Ins) (bm bi b6 b : Nat) (u : World) : Prop where
  bw : Below w.heap.size w u
  gm : Gx u bm m
  ii : Ix u bi i
  g6 : Gx u b6 zeroM
section
variable {w u : World} {m : Msg} {i : Ins} {bm bi b6 b : Nat}
theorem SR.stays (h : SR w m i bm bi b6 b u) {u' : World} (k : Below u.heap.size u u') : SR w m i bm bi b6 b u' := ⟨nx h.bw k, h.gm.stays k, h.ii.stays k, h.g6.stays k⟩
theorem SR.sets (h : SR w m i bm bi b6 b u) (hb : w.heap.size ≤ b) (h1 : bm ≠ b) (h2 : bi ≠ b) (h3 : b6 ≠ b) (o : Nat) (vs : List Value) : SR w m i bm bi b6 b (u.setCells b o vs) :=
  ⟨h.bw.trans (low_setCells hb _ _ _), ⟨Bx.sets' h1 _ _ _ h.gm.bx⟩, ⟨Bx.sets' h2 _ _ _ h.ii.bx⟩, ⟨Bx.sets' h3 _ _ _ h.g6.bx⟩⟩
theorem SR.set (h : SR w m i bm bi b6 b u) (hb : w.heap.size ≤ b) (h1 : bm ≠ b) (h2 : bi ≠ b) (h3 : b6 ≠ b) (o : Nat) (v : Value) : SR w m i bm bi b6 b (u.setCell ⟨b, o, none⟩ v) :=
  ⟨h.bw.trans (low_setCell _ _ hb), ⟨h.gm.bx.set' h1 _ _⟩, ⟨h.ii.bx.set' h2 _ _⟩, ⟨h.g6.bx.set' h3 _ _⟩⟩
end
theorem over_gb (m : Msg) (a b : Int) : over (cg m) 5 [.int .i64 a, .int .i64 b] = cg { m with bn := a, br := b } := rfl
theorem over_gt (m : Msg) (a b : Int) : over (cg m) 25 [.int .i64 a, .int .i64 b] = cg { m with tn := a, tr := b } := rfl
theorem over_gv (m : Msg) (c : Nat → Int) (q : Int) (d : Nat → Int) : over (cg m) 7 (cv c q d).toList = cg { m with c := c, q := q, d := d } := by
  show over (cg m) 7 [.int .i64 (c 0), .int .i64 (c 1), .int .i64 (c 2), .int .i64 (c 3), .int .i64 (c 4), .int .i64 (c 5), .int .i64 (c 6), .int .i64 (c 7), .int .i64 (c 8), .int .i64 q, .int .i64 (d 0), .int .i64 (d 1), .int .i64 (d 2), .int .i64 (d 3), .int .i64 (d 4), .int .i64 (d 5), .int .i64 (d 6)] = _
  simp only [over, cg, List.setIfInBounds_toArray, List.set_cons_zero, List.set_cons_succ]
theorem set_gs (m : Msg) (s : Int) : (cg m).setIfInBounds 24 (.int .i64 s) = cg { m with st := s } := rfl
theorem set_gm (m : Msg) (s : Bool) : (cg m).setIfInBounds 27 (.bool s) = cg { m with sm := s } := rfl
/-- An answer while it is put together. -/
def ans0 (m : Msg) (k : Int) : Msg := ⟨k, m.t, m.f, m.pr, m.ps, 0, 0, Cm.zeroF, 0, Ve.zeroV, 0, 0, 0, false⟩
def ans3 (m : Msg) (i : Ins) (f : Nat → Bool) : Msg := ⟨8, m.t, m.f, m.pr, m.ps, if f 5 then i.bn else 0, if f 5 then i.br else 0, Cm.zeroF, 0, Ve.zeroV, 0, if f 7 then m.bn else 0, if f 7 then m.br else 0, false⟩
def ans6 (m : Msg) (k : Int) (i : Ins) (f : Nat → Bool) : Msg := ⟨k, m.t, m.f, m.pr, m.ps, m.bn, m.br, if f 9 then i.c else Cm.zeroF, if f 9 then i.q else 0, if f 9 then i.d else Ve.zeroV, if f 11 then i.st else 0, if f 13 then i.tn else 0, if f 13 then i.tr else 0, if f 15 then i.sm else false⟩
set_option maxRecDepth 8000 in
set_option maxHeartbeats 8000000 in
theorem response_any (m : Msg) (k : Int) (i : Ins) (w : World) :
    Calls Try.prog 26 #[.agg (cg m), .int .i64 k, .agg (ci i)] w fun e w' => e = .returned (.agg (cg (respM m k i))) ∧ Below w.heap.size w w' := by
  obtain ⟨V, hV⟩ : ∃ Q_ : World, w.alloc (.cells (cg m) 34) = Q_ := ⟨_, rfl⟩
  have bV : Below w.heap.size w V := hV ▸ below1 _ _
  have gV : Gx V w.heap.size m := ⟨hV ▸ Bx.new _ _ _⟩
  obtain ⟨A0, hA0⟩ : ∃ Q_ : World, V.alloc (.cells (ci i) 37) = Q_ := ⟨_, rfl⟩
  have bA : Below V.heap.size V A0 := hA0 ▸ below1 _ _
  have iA : Ix A0 V.heap.size i := ⟨hA0 ▸ Bx.new _ _ _⟩
  obtain ⟨U, hU⟩ : ∃ Q_ : World, A0.alloc (.cells (cg zeroM) 34) = Q_ := ⟨_, rfl⟩
  have bU : Below A0.heap.size A0 U := hU ▸ below1 _ _
  have oU : Gx U A0.heap.size zeroM := ⟨hU ▸ Bx.new _ _ _⟩
  obtain ⟨Y, hY⟩ : ∃ Q_ : World, (U.alloc (.cells (cg zeroM) 34)).setRow U.heap.size (cg (ans0 m k)) = Q_ := ⟨_, rfl⟩
  have yY : Gx Y U.heap.size (ans0 m k) := ⟨hY ▸ Bx.put (Bx.new _ _ _) _⟩
  have bY : Below U.heap.size U Y := hY ▸ below_setRow (below1 _ _) (Nat.le_refl _) _
  have hplain := (Bx.new U (cg zeroM) 34).plain (n := 28) rfl
  have gY := ((gV.stays bA).stays bU).stays bY
  have iY := (iA.stays bU).stays bY
  have oY := oU.stays bY
  have gU := (gV.stays bA).stays bU
  have bwY := nx (nx (nx bV bA) bU) bY
  have hl1 : w.heap.size < V.heap.size := gV.bx.lt
  have hl2 : V.heap.size < A0.heap.size := iA.bx.lt
  have hl3 : A0.heap.size < U.heap.size := oU.bx.lt
  have hl4 : U.heap.size < Y.heap.size := yY.bx.lt
  obtain ⟨bm, hbm⟩ : ∃ b, w.heap.size = b := ⟨_, rfl⟩
  have HA0 : Hid (cg ⟨k, m.t, m.f, m.pr, m.ps, 0, 0, Cm.zeroF, 0, Ve.zeroV, 0, 0, 0, false⟩ = cg (ans0 m k)) := Lib.hid rfl
  obtain ⟨r1, k0, k1, k2, -, -, -, -, l1⟩ := gU.facts
  have ha0 := HA0.out
  have HS0 : Hid (SR w m i w.heap.size V.heap.size A0.heap.size U.heap.size Y) := Lib.hid ⟨bwY, gY, iY, oY⟩
  have HY0 := Lib.hid yY
  have hbm2 := Lib.hid hbm
  clear gV bV iA bA oU bU yY gY iY oY gU bwY hbm bY
  by_cases h8 : k = 8
  · subst h8
    obtain ⟨R, hR⟩ : ∃ R, respM m 8 i = R := ⟨_, rfl⟩
    have HF : Hid (({ ans0 m 8 with bn := i.bn, br := i.br, tn := m.bn, tr := m.br } : Msg) = R) := Lib.hid (by rw [← hR]; rfl)
    rw [hR]
    clear hR
    go_enter Try.func26, Try.ntmps26
    go_wp2
    refine Rh.region (SR w m i w.heap.size V.heap.size A0.heap.size U.heap.size) (fun u => Gx u U.heap.size (ans0 m 8)) (fun _ _ h k => h.stays k) (fun _ _ h k => h.stays k) (HS0.out.stays (Below.refl _ _).drew) (HY0.out.stays (Below.refl _ _).drew) [0, 1, 2, 3, 4, 5, 6, 7] (by kernel_rfl) (by kernel_rfl) (by kernel_rfl) (fun _ _ d _ _ h => by cases d <;> exact h) ?_
    have hK : ∀ u, SR w m i w.heap.size V.heap.size A0.heap.size U.heap.size u → row u w.heap.size = cg m ∧ row u V.heap.size = ci i := fun u h => ⟨h.gm.facts.1, h.ii.facts.1⟩
    repeat (first | (refine Rh.Steps.skip (by rfl) (by kernel_rfl) (by rfl) ?_; simp only [Act.put, List.setIfInBounds_toArray, List.set_cons_zero, List.set_cons_succ]) | (refine Rh.Steps.pure (v := ?_) (by rfl) (by kernel_rfl) (by rfl) ?_ ?_; rotate_left; (intro w_ hS_; have hk_ := hK w_ hS_; go_simp <;> with_reducible rfl); simp only [Act.put, List.setIfInBounds_toArray, List.set_cons_zero, List.set_cons_succ]))
    refine Rh.Steps.forced (i := 5) (by kernel_rfl) ?_
    refine Rh.One.store (fun u => Gx u U.heap.size ({ ans0 m 8 with bn := i.bn, br := i.br })) (fun _ _ h k => h.stays k) (by rfl) (by rfl) ?_ ?_
    · intro w_ hS_ hG_
      have t_ := hG_.bx.there (o := 5) (n := 2) (by show 7 ≤ 28; decide)
      have b_ := Bx.sets (w := w_) [.int .i64 i.bn, .int .i64 i.br] 5 w_ _ hG_.bx
      rw [over_gb] at b_
      refine ⟨_, ?_, hS_.sets (by omega) (by omega) (by omega) (by omega) 5 [.int .i64 i.bn, .int .i64 i.br], ⟨b_⟩⟩
      go_simp
    simp only [Act.put]
    repeat (first | (refine Rh.Steps.skip (by rfl) (by kernel_rfl) (by rfl) ?_; simp only [Act.put, List.setIfInBounds_toArray, List.set_cons_zero, List.set_cons_succ]) | (refine Rh.Steps.pure (v := ?_) (by rfl) (by kernel_rfl) (by rfl) ?_ ?_; rotate_left; (intro w_ hS_; have hk_ := hK w_ hS_; go_simp <;> with_reducible rfl); simp only [Act.put, List.setIfInBounds_toArray, List.set_cons_zero, List.set_cons_succ]))
    refine Rh.Steps.forced (i := 7) (by kernel_rfl) ?_
    refine Rh.One.store (fun u => Gx u U.heap.size ({ ans0 m 8 with bn := i.bn, br := i.br, tn := m.bn, tr := m.br })) (fun _ _ h k => h.stays k) (by rfl) (by rfl) ?_ ?_
    · intro w_ hS_ hG_
      have t_ := hG_.bx.there (o := 25) (n := 2) (by show 27 ≤ 28; decide)
      have b_ := Bx.sets (w := w_) [.int .i64 m.bn, .int .i64 m.br] 25 w_ _ hG_.bx
      rw [over_gt] at b_
      refine ⟨_, ?_, hS_.sets (by omega) (by omega) (by omega) (by omega) 25 [.int .i64 m.bn, .int .i64 m.br], ⟨b_⟩⟩
      go_simp
    simp only [Act.put]
    refine Rh.Steps.nil (by kernel_rfl) ?_
    intro u hS hG
    rw [HF.out] at hG
    obtain ⟨e1, -, -, -, -, -, -, -, e9⟩ := hG.facts
    obtain ⟨-, -, -, -, -, -, -, p6, -⟩ := hS.g6.facts
    have hbu := hS.bw
    have o6 := hS.g6
    clear hS hG
    go_wp2
    exact bodyPost_ret (v := .agg (cg R)) (ret_G Try.results26 _ _ R (o6.bx.put _).row) rfl ⟨rfl, below_setRow hbu (by omega) _⟩
  · have h8' : (k == 8) = false := by simpa using h8
    obtain ⟨R, hR⟩ : ∃ R, respM m k i = R := ⟨_, rfl⟩
    have HF : Hid (({ ans0 m k with bn := m.bn, br := m.br, c := i.c, q := i.q, d := i.d, st := i.st, tn := i.tn, tr := i.tr, sm := i.sm } : Msg) = R) := Lib.hid (by rw [← hR]; unfold respM; rw [if_neg h8]; rfl)
    rw [hR]
    obtain ⟨rm, -, -, -, -, -, -, -, -⟩ := HS0.out.gm.facts
    have tY := HY0.out.bx.there (o := 5) (n := 2) (by show 7 ≤ 28; decide)
    obtain ⟨Z, hZ⟩ : ∃ Q_ : World, Y.setCells U.heap.size 5 [.int .i64 m.bn, .int .i64 m.br] = Q_ := ⟨_, rfl⟩
    have HZ0 : Hid (Gx Z U.heap.size ({ ans0 m k with bn := m.bn, br := m.br })) := Lib.hid ⟨by
      have b_ := Bx.sets (w := Y) [.int .i64 m.bn, .int .i64 m.br] 5 Y _ HY0.out.bx
      rw [over_gb] at b_
      exact hZ ▸ b_⟩
    have HSZ : Hid (SR w m i w.heap.size V.heap.size A0.heap.size U.heap.size Z) := Lib.hid (hZ ▸ HS0.out.sets (by omega) (by omega) (by omega) (by omega) 5 _)
    clear hR h8
    go_enter Try.func26, Try.ntmps26
    go_wp2
    clear rm tY
    refine Rh.region (SR w m i w.heap.size V.heap.size A0.heap.size U.heap.size) (fun u => Gx u U.heap.size ({ ans0 m k with bn := m.bn, br := m.br })) (fun _ _ h k => h.stays k) (fun _ _ h k => h.stays k) (HSZ.out.stays (Below.refl _ _).drew) (HZ0.out.stays (Below.refl _ _).drew) [0, 1, 2, 3, 4, 5, 6, 7, 8, 9, 10, 11, 12, 13, 14, 15] (by kernel_rfl) (by kernel_rfl) (by kernel_rfl) (fun _ _ d _ _ h => by cases d <;> exact h) ?_
    have hK : ∀ u, SR w m i w.heap.size V.heap.size A0.heap.size U.heap.size u → row u V.heap.size = ci i ∧ u.cell? ⟨V.heap.size, 6, none⟩ = some (.int .i64 i.st) ∧ u.cell? ⟨V.heap.size, 24, none⟩ = some (.bool i.sm) := fun u h => ⟨h.ii.facts.1, h.ii.facts.2.1, h.ii.facts.2.2.2.1⟩
    repeat (first | (refine Rh.Steps.skip (by rfl) (by kernel_rfl) (by rfl) ?_; simp only [Act.put, List.setIfInBounds_toArray, List.set_cons_zero, List.set_cons_succ]) | (refine Rh.Steps.pure (v := ?_) (by rfl) (by kernel_rfl) (by rfl) ?_ ?_; rotate_left; (intro w_ hS_; have hk_ := hK w_ hS_; go_simp <;> with_reducible rfl); simp only [Act.put, List.setIfInBounds_toArray, List.set_cons_zero, List.set_cons_succ]))
    refine Rh.Steps.forced (i := 9) (by kernel_rfl) ?_
    refine Rh.One.store (fun u => Gx u U.heap.size ({ ans0 m k with bn := m.bn, br := m.br, c := i.c, q := i.q, d := i.d })) (fun _ _ h k => h.stays k) (by rfl) (by rfl) ?_ ?_
    · intro w_ hS_ hG_
      have t_ := hG_.bx.there (o := 7) (n := 17) (by show 24 ≤ 28; decide)
      have b_ := Bx.sets (w := w_) (cv i.c i.q i.d).toList 7 w_ _ hG_.bx
      rw [over_gv] at b_
      refine ⟨_, ?_, hS_.sets (by omega) (by omega) (by omega) (by omega) 7 (cv i.c i.q i.d).toList, ⟨b_⟩⟩
      go_simp
    simp only [Act.put]
    repeat (first | (refine Rh.Steps.skip (by rfl) (by kernel_rfl) (by rfl) ?_; simp only [Act.put, List.setIfInBounds_toArray, List.set_cons_zero, List.set_cons_succ]) | (refine Rh.Steps.pure (v := ?_) (by rfl) (by kernel_rfl) (by rfl) ?_ ?_; rotate_left; (intro w_ hS_; have hk_ := hK w_ hS_; go_simp <;> with_reducible rfl); simp only [Act.put, List.setIfInBounds_toArray, List.set_cons_zero, List.set_cons_succ]))
    refine Rh.Steps.forced (i := 11) (by kernel_rfl) ?_
    refine Rh.One.store (fun u => Gx u U.heap.size ({ ans0 m k with bn := m.bn, br := m.br, c := i.c, q := i.q, d := i.d, st := i.st })) (fun _ _ h k => h.stays k) (by rfl) (by rfl) ?_ ?_
    · intro w_ hS_ hG_
      obtain ⟨-, -, -, -, -, c24, c27, -, -⟩ := hG_.facts
      have z_ : w_.frozen? ⟨U.heap.size, 24, none⟩ = false := hG_.bx.thawed _
      have b_ := hG_.bx.set 24 (.int .i64 i.st)
      rw [set_gs] at b_
      refine ⟨_, ?_, hS_.set (by omega) (by omega) (by omega) (by omega) 24 (.int .i64 i.st), ⟨b_⟩⟩
      go_simp
    simp only [Act.put]
    repeat (first | (refine Rh.Steps.skip (by rfl) (by kernel_rfl) (by rfl) ?_; simp only [Act.put, List.setIfInBounds_toArray, List.set_cons_zero, List.set_cons_succ]) | (refine Rh.Steps.pure (v := ?_) (by rfl) (by kernel_rfl) (by rfl) ?_ ?_; rotate_left; (intro w_ hS_; have hk_ := hK w_ hS_; go_simp <;> with_reducible rfl); simp only [Act.put, List.setIfInBounds_toArray, List.set_cons_zero, List.set_cons_succ]))
    refine Rh.Steps.forced (i := 13) (by kernel_rfl) ?_
    refine Rh.One.store (fun u => Gx u U.heap.size ({ ans0 m k with bn := m.bn, br := m.br, c := i.c, q := i.q, d := i.d, st := i.st, tn := i.tn, tr := i.tr })) (fun _ _ h k => h.stays k) (by rfl) (by rfl) ?_ ?_
    · intro w_ hS_ hG_
      have t_ := hG_.bx.there (o := 25) (n := 2) (by show 27 ≤ 28; decide)
      have b_ := Bx.sets (w := w_) [.int .i64 i.tn, .int .i64 i.tr] 25 w_ _ hG_.bx
      rw [over_gt] at b_
      refine ⟨_, ?_, hS_.sets (by omega) (by omega) (by omega) (by omega) 25 [.int .i64 i.tn, .int .i64 i.tr], ⟨b_⟩⟩
      go_simp
    simp only [Act.put]
    repeat (first | (refine Rh.Steps.skip (by rfl) (by kernel_rfl) (by rfl) ?_; simp only [Act.put, List.setIfInBounds_toArray, List.set_cons_zero, List.set_cons_succ]) | (refine Rh.Steps.pure (v := ?_) (by rfl) (by kernel_rfl) (by rfl) ?_ ?_; rotate_left; (intro w_ hS_; have hk_ := hK w_ hS_; go_simp <;> with_reducible rfl); simp only [Act.put, List.setIfInBounds_toArray, List.set_cons_zero, List.set_cons_succ]))
    refine Rh.Steps.forced (i := 15) (by kernel_rfl) ?_
    refine Rh.One.store (fun u => Gx u U.heap.size ({ ans0 m k with bn := m.bn, br := m.br, c := i.c, q := i.q, d := i.d, st := i.st, tn := i.tn, tr := i.tr, sm := i.sm })) (fun _ _ h k => h.stays k) (by rfl) (by rfl) ?_ ?_
    · intro w_ hS_ hG_
      obtain ⟨-, -, -, -, -, c24, c27, -, -⟩ := hG_.facts
      have z_ : w_.frozen? ⟨U.heap.size, 27, none⟩ = false := hG_.bx.thawed _
      have b_ := hG_.bx.set 27 (.bool i.sm)
      rw [set_gm] at b_
      refine ⟨_, ?_, hS_.set (by omega) (by omega) (by omega) (by omega) 27 (.bool i.sm), ⟨b_⟩⟩
      go_simp
    simp only [Act.put]
    refine Rh.Steps.nil (by kernel_rfl) ?_
    intro u hS hG
    rw [HF.out] at hG
    obtain ⟨e1, -, -, -, -, -, -, -, e9⟩ := hG.facts
    obtain ⟨-, -, -, -, -, -, -, p6, -⟩ := hS.g6.facts
    have hbu := hS.bw
    have o6 := hS.g6
    clear hS hG
    go_wp2
    exact bodyPost_ret (v := .agg (cg R)) (ret_G Try.results26 _ _ R (o6.bx.put _).row) rfl ⟨rfl, below_setRow hbu (by omega) _⟩
theorem response_is {m : Msg} {k : Int} {i : Ins} {r : Msg} (H : Hid (respM m k i = r)) (w : World) :
    Calls Try.prog 26 #[.agg (cg m), .int .i64 k, .agg (ci i)] w fun e w' => e = .returned (.agg (cg r)) ∧ Below w.heap.size w w' := by
  rw [← H.out]; exact response_any m k i w
end Go.Proofs.Ytmaecknjamnnpaa.An
