/- Values, instances and arrays of eight numbers as variables: made, stored, returned. -/
import Derived.Test.YtmaecknjamnnpaaRcI
namespace Go.Proofs.Ytmaecknjamnnpaa.Rc
open Go.RowKit
set_option linter.unusedVariables false
open Go.Proofs.Ytmaecknjamnnpaa.Rw
open Go.Proofs.Ytmaecknjamnnpaa.Bv
def zeroI : Ins := ⟨0, 0, 0, 0, 0, 0, 0, Cm.zeroF, 0, Ve.zeroV, false⟩
/-- Eight numbers. -/
def hc (f : Nat → Int) : Array Value := ((List.range 8).map fun i => Value.int .i64 (f i)).toArray
theorem hc_size (f : Nat → Int) : (hc f).size = 8 := by simp [hc]
theorem hc_at (f : Nat → Int) (k : Nat) (h : k < 8) : (hc f)[k]? = some (.int .i64 (f k)) := by simp [hc, h]
theorem hc_get (f : Nat → Int) (k : Nat) (h : k < (hc f).size) : (hc f)[k] = .int .i64 (f k) := by simp [hc]
theorem hc_set (f : Nat → Int) (k : Nat) (x : Int) : (hc f).setIfInBounds k (.int .i64 x) = hc (Cm.upd f k x) := by
  apply Array.ext'
  unfold hc
  rw [Array.toList_setIfInBounds]
  apply List.ext_getElem
  · simp
  · intro i h1 h2
    simp at h1 h2
    rw [List.getElem_set]
    by_cases h : k = i
    · subst h; simp [Cm.upd]
    · have h3 : ¬ i = k := fun e => h e.symm
      simp [h, Cm.upd, h3]
theorem hc_congr {f g : Nat → Int} (h : ∀ i, i < 8 → f i = g i) : hc f = hc g := by
  apply Array.ext'
  unfold hc
  simp only
  apply List.map_congr_left
  intro i hi
  rw [h i (by simpa using hi)]
theorem hc_list (f : Nat → Int) : (hc f).toList = [.int .i64 (f 0), .int .i64 (f 1), .int .i64 (f 2), .int .i64 (f 3), .int .i64 (f 4), .int .i64 (f 5), .int .i64 (f 6), .int .i64 (f 7)] := rfl
theorem hc_one (f : Nat → Int) : oneAll (.agg (hc f)) = true := by
  show (hc f).all (·.oneCell') = true
  rw [← Array.all_toList, hc_list]; rfl
def v8 (a b c d e f g h : Int) : Nat → Int
  | 0 => a | 1 => b | 2 => c | 3 => d | 4 => e | 5 => f | 6 => g | 7 => h | _ => 0
def v7 (a b c d e f g : Int) : Nat → Int
  | 0 => a | 1 => b | 2 => c | 3 => d | 4 => e | 5 => f | 6 => g | _ => 0
theorem agg8 (a b c d e f g h : Int) : Value.agg #[.int .i64 a, .int .i64 b, .int .i64 c, .int .i64 d, .int .i64 e, .int .i64 f, .int .i64 g, .int .i64 h] = .agg (hc (v8 a b c d e f g h)) := rfl
theorem agg7 (a b c d e f g : Int) : Value.agg #[.int .i64 a, .int .i64 b, .int .i64 c, .int .i64 d, .int .i64 e, .int .i64 f, .int .i64 g] = .agg (Ve.fc (v7 a b c d e f g)) := rfl
theorem agg25 (x0 x1 x2 x3 x4 x5 x6 c0 c1 c2 c3 c4 c5 c6 c7 c8 q d0 d1 d2 d3 d4 d5 d6 : Int) (b : Bool) : Value.agg #[.int .i64 x0, .int .i64 x1, .int .i64 x2, .int .i64 x3, .int .i64 x4, .int .i64 x5, .int .i64 x6, .int .i64 c0, .int .i64 c1, .int .i64 c2, .int .i64 c3, .int .i64 c4, .int .i64 c5, .int .i64 c6, .int .i64 c7, .int .i64 c8, .int .i64 q, .int .i64 d0, .int .i64 d1, .int .i64 d2, .int .i64 d3, .int .i64 d4, .int .i64 d5, .int .i64 d6, .bool b] =
    .agg (ci ⟨x0, x1, x2, x3, x4, x5, x6, Cm.v9 c0 c1 c2 c3 c4 c5 c6 c7 c8, q, v7 d0 d1 d2 d3 d4 d5 d6, b⟩) := rfl
theorem v8_0 (a b c d e f g h : Int) : v8 a b c d e f g h 0 = a := rfl
attribute [go_sem] hc_size hc_at hc_get hc_set hc_one agg7
theorem ci_a0 (i : Ins) : (ci i)[0]? = some (.int .i64 i.pr) := rfl
theorem ci_g0 (i : Ins) (h : 0 < (ci i).size) : (ci i)[0] = .int .i64 i.pr := rfl
theorem ci_a1 (i : Ins) : (ci i)[1]? = some (.int .i64 i.ps) := rfl
theorem ci_g1 (i : Ins) (h : 1 < (ci i).size) : (ci i)[1] = .int .i64 i.ps := rfl
theorem ci_a2 (i : Ins) : (ci i)[2]? = some (.int .i64 i.bn) := rfl
theorem ci_g2 (i : Ins) (h : 2 < (ci i).size) : (ci i)[2] = .int .i64 i.bn := rfl
theorem ci_a3 (i : Ins) : (ci i)[3]? = some (.int .i64 i.br) := rfl
theorem ci_g3 (i : Ins) (h : 3 < (ci i).size) : (ci i)[3] = .int .i64 i.br := rfl
theorem ci_a4 (i : Ins) : (ci i)[4]? = some (.int .i64 i.tn) := rfl
theorem ci_g4 (i : Ins) (h : 4 < (ci i).size) : (ci i)[4] = .int .i64 i.tn := rfl
theorem ci_a5 (i : Ins) : (ci i)[5]? = some (.int .i64 i.tr) := rfl
theorem ci_g5 (i : Ins) (h : 5 < (ci i).size) : (ci i)[5] = .int .i64 i.tr := rfl
theorem ci_a6 (i : Ins) : (ci i)[6]? = some (.int .i64 i.st) := rfl
theorem ci_g6 (i : Ins) (h : 6 < (ci i).size) : (ci i)[6] = .int .i64 i.st := rfl
theorem ci_a24 (i : Ins) : (ci i)[24]? = some (.bool i.sm) := rfl
theorem ci_g24 (i : Ins) (h : 24 < (ci i).size) : (ci i)[24] = .bool i.sm := rfl
theorem cv_a9 (c : Nat → Int) (q : Int) (d : Nat → Int) : (cv c q d)[9]? = some (.int .i64 q) := rfl
theorem cv_g9 (c : Nat → Int) (q : Int) (d : Nat → Int) (h : 9 < (cv c q d).size) : (cv c q d)[9] = .int .i64 q := rfl
attribute [go_sem] ci_a0 ci_g0 ci_a1 ci_g1 ci_a2 ci_g2 ci_a3 ci_g3 ci_a4 ci_g4 ci_a5 ci_g5 ci_a6 ci_g6 ci_a24 ci_g24 cv_a9 cv_g9
def numOf : Option Value → Int
  | some (.int _ x) => x
  | _ => 0
def nI : Value → Int
  | .int _ x => x
  | _ => 0
def nB : Value → Bool
  | .bool b => b
  | _ => false
def nA (v : Value) (k : Nat) : Int := numOf v.cells[k]?
def isI : Value → Bool
  | .int .i64 _ => true
  | _ => false
def isB : Value → Bool
  | .bool _ => true
  | _ => false
theorem isI_at (n : Int) : isI (.int .i64 n) = true := rfl
theorem isB_at (b : Bool) : isB (.bool b) = true := rfl
attribute [go_sem] isI_at isB_at
theorem isI_of {v : Value} (h : isI v = true) : v = .int .i64 (nI v) := by
  unfold isI at h
  split at h
  · rfl
  · cases h
theorem isB_of {v : Value} (h : isB v = true) : v = .bool (nB v) := by
  unfold isB at h
  split at h
  · rfl
  · cases h
theorem nI_int (k : IntKind) (x : Int) : nI (.int k x) = x := id rfl
theorem nB_bool (b : Bool) : nB (.bool b) = b := id rfl
theorem nA0 (a b : Int) : nA (.agg #[.int .i64 a, .int .i64 b]) 0 = a := id rfl
theorem nA1 (a b : Int) : nA (.agg #[.int .i64 a, .int .i64 b]) 1 = b := id rfl
attribute [go_sem] nI_int nB_bool nA0 nA1
def fnC (v : Value) : Nat → Int := fun i => numOf v.cells[i]?
def fV (v : Value) : Nat → Int := fun i => numOf v.cells[i]?
def qV (v : Value) : Int := numOf v.cells[9]?
def dV (v : Value) : Nat → Int := fun i => numOf v.cells[10 + i]?
theorem cv_fV (c d : Nat → Int) (q : Int) : cv (fV (.agg (cv c q d))) (qV (.agg (cv c q d))) (dV (.agg (cv c q d))) = cv c q d := id rfl
theorem ci_fV (a b e f g h s : Int) (c d : Nat → Int) (q : Int) (m : Bool) : ci ⟨a, b, e, f, g, h, s, fV (.agg (cv c q d)), qV (.agg (cv c q d)), dV (.agg (cv c q d)), m⟩ = ci ⟨a, b, e, f, g, h, s, c, q, d, m⟩ := id rfl
attribute [go_sem] cv_fV ci_fV
theorem cv_fn (c d : Nat → Int) (q : Int) : cv (fnC (.agg (Cm.fc c))) q d = cv c q d := id rfl
theorem cv_fd (c d : Nat → Int) (q : Int) : cv c q (fnC (.agg (Ve.fc d))) = cv c q d := id rfl
theorem fc_fn (c : Nat → Int) : Cm.fc (fnC (.agg (Cm.fc c))) = Cm.fc c := id rfl
theorem fd_fn (d : Nat → Int) : Ve.fc (fnC (.agg (Ve.fc d))) = Ve.fc d := id rfl
attribute [go_sem] cv_fn cv_fd fc_fn fd_fn
theorem cv_one (c : Nat → Int) (q : Int) (d : Nat → Int) : oneAll (.agg (cv c q d)) = true := by
  show (cv c q d).all (·.oneCell') = true
  rw [← Array.all_toList]; rfl
theorem ci_one (i : Ins) : oneAll (.agg (ci i)) = true := by
  show (ci i).all (·.oneCell') = true
  rw [← Array.all_toList]; rfl
theorem fcd_one (d : Nat → Int) : oneAll (.agg (Ve.fc d)) = true := Ve.fc_one d
attribute [go_sem] cv_one ci_one fcd_one
theorem zV : ∀ w, (zeroValue 32).run Try.prog w = .ok (.agg (cv Cm.zeroF 0 Ve.zeroV)) w := (zero_of_info (n := 17) (by kernel_rfl)).1
theorem zI : ∀ w, (zeroValue 37).run Try.prog w = .ok (.agg (ci zeroI)) w := (zero_of_info (n := 25) (by kernel_rfl)).1
section
variable (ρ : Operand → Value) (dst : Option Tmp) (ty : TypeId) (pos : String) (after : Array Edge) (guard : Option (Nat × Bool)) (w : World)
theorem allocV : (execOp ρ { dst, op := .alloc 32, type := ty, pos, after, guard }).run Try.prog w = .ok (.value (.pointer (some ⟨w.heap.size, 0, none⟩))) (w.alloc (.cells (cv Cm.zeroF 0 Ve.zeroV) 32)) :=
  exec_alloc ρ dst ty pos after guard w zV
theorem allocI : (execOp ρ { dst, op := .alloc 37, type := ty, pos, after, guard }).run Try.prog w = .ok (.value (.pointer (some ⟨w.heap.size, 0, none⟩))) (w.alloc (.cells (ci zeroI) 37)) :=
  exec_alloc ρ dst ty pos after guard w zI
theorem storeI (p x : Operand) (h : plainAt 25 w (ρ p) = true) (hs : (ρ x).cells.size = 25) (h1 : oneAll (ρ x) = true) (ha : ρ x = .agg (ρ x).cells) : (execOp ρ { dst, op := .store 37 p x, type := ty, pos, after, guard }).run Try.prog w = .ok .skip (putRow w (ρ p) (ρ x).cells) :=
  exec_store (n := 24) ρ dst ty pos after guard w (by kernel_rfl) p x h hs h1 ha
theorem storeV (p x : Operand) (h : plainAt 17 w (ρ p) = true) (hs : (ρ x).cells.size = 17) (h1 : oneAll (ρ x) = true) (ha : ρ x = .agg (ρ x).cells) : (execOp ρ { dst, op := .store 32 p x, type := ty, pos, after, guard }).run Try.prog w = .ok .skip (putRow w (ρ p) (ρ x).cells) :=
  exec_store (n := 16) ρ dst ty pos after guard w (by kernel_rfl) p x h hs h1 ha
theorem buildI0 : (execOp ρ { dst, op := .build 37 #[], type := ty, pos, after, guard }).run Try.prog w = .ok (.value (.agg (ci zeroI))) w := by
  have := run_build (P := Try.prog) w 37 #[] (ci zeroI) (by kernel_rfl)
  simp [execOp, this]
theorem buildV1 (x : Operand) (ha : ρ x = .agg (Cm.fc (fnC (ρ x)))) : (execOp ρ { dst, op := .build 32 #[(0, x)], type := ty, pos, after, guard }).run Try.prog w = .ok (.value (.agg (cv (fnC (ρ x)) 0 Ve.zeroV))) w := by
  generalize fnC (ρ x) = f at ha ⊢
  have := run_build (P := Try.prog) w 32 #[(0, .agg (Cm.fc f))] (cv f 0 Ve.zeroV) (by kernel_rfl)
  simp [execOp, ha, this]
theorem buildV3 (x y z : Operand) (hx : ρ x = .agg (Cm.fc (fnC (ρ x)))) (hy : isI (ρ y) = true) (hz : ρ z = .agg (Ve.fc (fnC (ρ z)))) : (execOp ρ { dst, op := .build 32 #[(0, x), (1, y), (2, z)], type := ty, pos, after, guard }).run Try.prog w = .ok (.value (.agg (cv (fnC (ρ x)) (nI (ρ y)) (fnC (ρ z))))) w := by
  generalize fnC (ρ x) = fx at hx ⊢
  replace hy := isI_of hy
  generalize nI (ρ y) = fy at hy ⊢
  generalize fnC (ρ z) = fz at hz ⊢
  have := run_build (P := Try.prog) w 32 #[(0, .agg (Cm.fc fx)), (1, .int .i64 fy), (2, .agg (Ve.fc fz))] (cv fx fy fz) (by kernel_rfl)
  simp [execOp, hx, hy, hz, this]
theorem buildI2 (x y : Operand) (hx : ρ x = .agg #[.int .i64 (nA (ρ x) 0), .int .i64 (nA (ρ x) 1)]) (hy : ρ y = .agg #[.int .i64 (nA (ρ y) 0), .int .i64 (nA (ρ y) 1)]) : (execOp ρ { dst, op := .build 37 #[(0, x), (1, y)], type := ty, pos, after, guard }).run Try.prog w = .ok (.value (.agg (ci ⟨nA (ρ x) 0, nA (ρ x) 1, nA (ρ y) 0, nA (ρ y) 1, 0, 0, 0, Cm.zeroF, 0, Ve.zeroV, false⟩))) w := by
  generalize nA (ρ x) 0 = fx at hx ⊢
  generalize nA (ρ x) 1 = gx at hx ⊢
  generalize nA (ρ y) 0 = fy at hy ⊢
  generalize nA (ρ y) 1 = gy at hy ⊢
  have := run_build (P := Try.prog) w 37 #[(0, .agg #[.int .i64 fx, .int .i64 gx]), (1, .agg #[.int .i64 fy, .int .i64 gy])] (ci ⟨fx, gx, fy, gy, 0, 0, 0, Cm.zeroF, 0, Ve.zeroV, false⟩) (by kernel_rfl)
  simp [execOp, hx, hy, this]
theorem buildI3 (x y z : Operand) (hx : ρ x = .agg #[.int .i64 (nA (ρ x) 0), .int .i64 (nA (ρ x) 1)]) (hy : isI (ρ y) = true) (hz : isB (ρ z) = true) : (execOp ρ { dst, op := .build 37 #[(0, x), (3, y), (5, z)], type := ty, pos, after, guard }).run Try.prog w = .ok (.value (.agg (ci ⟨nA (ρ x) 0, nA (ρ x) 1, 0, 0, 0, 0, nI (ρ y), Cm.zeroF, 0, Ve.zeroV, nB (ρ z)⟩))) w := by
  generalize nA (ρ x) 0 = fx at hx ⊢
  generalize nA (ρ x) 1 = gx at hx ⊢
  replace hy := isI_of hy
  generalize nI (ρ y) = fy at hy ⊢
  replace hz := isB_of hz
  generalize nB (ρ z) = fz at hz ⊢
  have := run_build (P := Try.prog) w 37 #[(0, .agg #[.int .i64 fx, .int .i64 gx]), (3, .int .i64 fy), (5, .bool fz)] (ci ⟨fx, gx, 0, 0, 0, 0, fy, Cm.zeroF, 0, Ve.zeroV, fz⟩) (by kernel_rfl)
  simp [execOp, hx, hy, hz, this]
theorem buildI5 (x y z s t : Operand) (hx : ρ x = .agg #[.int .i64 (nA (ρ x) 0), .int .i64 (nA (ρ x) 1)]) (hy : isI (ρ y) = true) (hz : isB (ρ z) = true) (hs : ρ s = .agg #[.int .i64 (nA (ρ s) 0), .int .i64 (nA (ρ s) 1)]) (ht : ρ t = .agg #[.int .i64 (nA (ρ t) 0), .int .i64 (nA (ρ t) 1)]) : (execOp ρ { dst, op := .build 37 #[(0, x), (3, y), (5, z), (1, s), (2, t)], type := ty, pos, after, guard }).run Try.prog w = .ok (.value (.agg (ci ⟨nA (ρ x) 0, nA (ρ x) 1, nA (ρ s) 0, nA (ρ s) 1, nA (ρ t) 0, nA (ρ t) 1, nI (ρ y), Cm.zeroF, 0, Ve.zeroV, nB (ρ z)⟩))) w := by
  generalize nA (ρ x) 0 = fx at hx ⊢
  generalize nA (ρ x) 1 = gx at hx ⊢
  replace hy := isI_of hy
  generalize nI (ρ y) = fy at hy ⊢
  replace hz := isB_of hz
  generalize nB (ρ z) = fz at hz ⊢
  generalize nA (ρ s) 0 = fs at hs ⊢
  generalize nA (ρ s) 1 = gs at hs ⊢
  generalize nA (ρ t) 0 = ft at ht ⊢
  generalize nA (ρ t) 1 = gt at ht ⊢
  have := run_build (P := Try.prog) w 37 #[(0, .agg #[.int .i64 fx, .int .i64 gx]), (3, .int .i64 fy), (5, .bool fz), (1, .agg #[.int .i64 fs, .int .i64 gs]), (2, .agg #[.int .i64 ft, .int .i64 gt])] (ci ⟨fx, gx, fs, gs, ft, gt, fy, Cm.zeroF, 0, Ve.zeroV, fz⟩) (by kernel_rfl)
  simp [execOp, hx, hy, hz, hs, ht, this]
theorem buildI6 (x s t y v z : Operand) (hx : ρ x = .agg #[.int .i64 (nA (ρ x) 0), .int .i64 (nA (ρ x) 1)]) (hs : ρ s = .agg #[.int .i64 (nA (ρ s) 0), .int .i64 (nA (ρ s) 1)]) (ht : ρ t = .agg #[.int .i64 (nA (ρ t) 0), .int .i64 (nA (ρ t) 1)]) (hy : isI (ρ y) = true) (hv : ρ v = .agg (cv (fV (ρ v)) (qV (ρ v)) (dV (ρ v)))) (hz : isB (ρ z) = true) : (execOp ρ { dst, op := .build 37 #[(0, x), (1, s), (2, t), (3, y), (4, v), (5, z)], type := ty, pos, after, guard }).run Try.prog w = .ok (.value (.agg (ci ⟨nA (ρ x) 0, nA (ρ x) 1, nA (ρ s) 0, nA (ρ s) 1, nA (ρ t) 0, nA (ρ t) 1, nI (ρ y), fV (ρ v), qV (ρ v), dV (ρ v), nB (ρ z)⟩))) w := by
  generalize nA (ρ x) 0 = fx at hx ⊢
  generalize nA (ρ x) 1 = gx at hx ⊢
  generalize nA (ρ s) 0 = fs at hs ⊢
  generalize nA (ρ s) 1 = gs at hs ⊢
  generalize nA (ρ t) 0 = ft at ht ⊢
  generalize nA (ρ t) 1 = gt at ht ⊢
  replace hy := isI_of hy
  generalize nI (ρ y) = fy at hy ⊢
  generalize fV (ρ v) = fv at hv ⊢
  generalize qV (ρ v) = gv at hv ⊢
  generalize dV (ρ v) = kv at hv ⊢
  replace hz := isB_of hz
  generalize nB (ρ z) = fz at hz ⊢
  have := run_build (P := Try.prog) w 37 #[(0, .agg #[.int .i64 fx, .int .i64 gx]), (1, .agg #[.int .i64 fs, .int .i64 gs]), (2, .agg #[.int .i64 ft, .int .i64 gt]), (3, .int .i64 fy), (4, .agg (cv fv gv kv)), (5, .bool fz)] (ci ⟨fx, gx, fs, gs, ft, gt, fy, fv, gv, kv, fz⟩) (by kernel_rfl)
  simp [execOp, hx, hs, ht, hy, hv, hz, this]
end
attribute [go_sem ↓] allocV allocI storeI storeV buildI0 buildV1 buildV3 buildI2 buildI3 buildI5 buildI6
theorem part_hc (f : Nat → Int) (k : Nat) (h : k < 8) (w : World) : (Go.part 3 (hc f) k).run Try.prog w = .ok (.int .i64 (f k)) w := by
  simp [Go.part, Try.isAgg3, hc_at f k h]
theorem ret_I {fn : Func} {p : Tmp} (h : fn.results = #[.cell p 37]) (tmps : Array Value) (w : World) (i : Ins) (hr : rowOf w (tmps.getD p undef) = ci i) : (results fn tmps).run Try.prog w = .ok (.agg (ci i)) w :=
  ret1 (n := 24) h Try.underlying37 rfl (by kernel_rfl) tmps w rfl hr
theorem ret_I2 {fn : Func} {p q : Tmp} (h : fn.results = #[.cell p 37, .tmp q]) (tmps : Array Value) (w : World) (i : Ins) (hr : rowOf w (tmps.getD p undef) = ci i) : (results fn tmps).run Try.prog w = .ok (.tuple #[.agg (ci i), tmps.getD q undef]) w :=
  ret2 (n := 24) h Try.underlying37 rfl (by kernel_rfl) tmps w rfl hr
theorem ret_V3 {fn : Func} {p q r : Tmp} (h : fn.results = #[.cell p 32, .tmp q, .tmp r]) (tmps : Array Value) (w : World) (c : Nat → Int) (x : Int) (d : Nat → Int) (hr : rowOf w (tmps.getD p undef) = cv c x d) : (results fn tmps).run Try.prog w = .ok (.tuple #[.agg (cv c x d), tmps.getD q undef, tmps.getD r undef]) w :=
  ret3 (n := 16) h Try.underlying32 rfl (by kernel_rfl) tmps w rfl hr
end Go.Proofs.Ytmaecknjamnnpaa.Rc
