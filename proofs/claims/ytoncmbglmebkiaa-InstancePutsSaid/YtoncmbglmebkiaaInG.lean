/- Of the statements of layer 18: one, awake. -/
import Derived.Test.YtoncmbglmebkiaaInD
import Derived.Test.YtoncmbglmebkiaaInF
import Derived.Test.YtoncmbglmebkiaaRf
import Derived.Test.YtoncmbglmebkiaaRg
namespace Go.Proofs.Ytoncmbglmebkiaa.In
open Go.RowKit
set_option linter.unusedVariables false
open Go.Proofs.Ytoncmbglmebkiaa.Rw
open Go.Proofs.Ytoncmbglmebkiaa.Da
open Go.Proofs.Ytoncmbglmebkiaa.Bv
open Go.Proofs.Ytoncmbglmebkiaa.Rc (Ins ci cv zeroI okI fnC nI nA isI fV qV dV isI_of)
open Go.Proofs.Ytoncmbglmebkiaa.St
def oneJ (r s c q : Int) : Ins := ⟨r, s, 0, 0, 0, 0, 1, Cm.v9 c 1 1 0 0 0 0 0 5, q, Ve.zeroV, false⟩
section
variable (a : Act) (dst : Option Tmp) (ty : TypeId) (pos : String) (after : Array Edge) (guard : Option (Nat × Bool)) (w : World)
theorem bCmd (x : Operand) (hx : isI (a.eval x) = true) : (execOp a.eval { dst, op := .build 29 #[(2, .const (.int .i64 1)), (0, x), (1, .const (.int .i64 1)), (8, .const (.int .i64 5))], type := ty, pos, after, guard }).run Try.prog w = .ok (.value (.agg (Cm.fc (Cm.v9 (nI (a.eval x)) 1 1 0 0 0 0 0 5)))) w := by
  replace hx := isI_of hx
  generalize nI (a.eval x) = fx at hx ⊢
  have := run_build (P := Try.prog) w 29 #[(2, .int .i64 1), (0, .int .i64 fx), (1, .int .i64 1), (8, .int .i64 5)] (Cm.fc (Cm.v9 fx 1 1 0 0 0 0 0 5)) (by kernel_rfl)
  have hc : a.eval (.const (.int .i64 1)) = .int .i64 1 := rfl
  have hc5 : a.eval (.const (.int .i64 5)) = .int .i64 5 := rfl
  simp [execOp, hx, hc, hc5, this]
theorem bVal (x y : Operand) (hx : a.eval x = .agg (Cm.fc (fnC (a.eval x)))) (hy : isI (a.eval y) = true) : (execOp a.eval { dst, op := .build 33 #[(0, x), (1, y)], type := ty, pos, after, guard }).run Try.prog w = .ok (.value (.agg (cv (fnC (a.eval x)) (nI (a.eval y)) Ve.zeroV))) w := by
  generalize fnC (a.eval x) = fx at hx ⊢
  replace hy := isI_of hy
  generalize nI (a.eval y) = fy at hy ⊢
  have := run_build (P := Try.prog) w 33 #[(0, .agg (Cm.fc fx)), (1, .int .i64 fy)] (cv fx fy Ve.zeroV) (by kernel_rfl)
  simp [execOp, hx, hy, this]
theorem bIns (x v : Operand) (hx : a.eval x = .agg #[.int .i64 (nA (a.eval x) 0), .int .i64 (nA (a.eval x) 1)]) (hv : a.eval v = .agg (cv (fV (a.eval v)) (qV (a.eval v)) (dV (a.eval v)))) : (execOp a.eval { dst, op := .build 35 #[(0, x), (3, .const (.int .i64 1)), (4, v)], type := ty, pos, after, guard }).run Try.prog w = .ok (.value (.agg (ci ⟨nA (a.eval x) 0, nA (a.eval x) 1, 0, 0, 0, 0, 1, fV (a.eval v), qV (a.eval v), dV (a.eval v), false⟩))) w := by
  generalize nA (a.eval x) 0 = fx at hx ⊢
  generalize nA (a.eval x) 1 = gx at hx ⊢
  generalize fV (a.eval v) = fv at hv ⊢
  generalize qV (a.eval v) = gv at hv ⊢
  generalize dV (a.eval v) = kv at hv ⊢
  have := run_build (P := Try.prog) w 35 #[(0, .agg #[.int .i64 fx, .int .i64 gx]), (3, .int .i64 1), (4, .agg (cv fv gv kv))] (ci ⟨fx, gx, 0, 0, 0, 0, 1, fv, gv, kv, false⟩) (by kernel_rfl)
  have hc : a.eval (.const (.int .i64 1)) = .int .i64 1 := rfl
  simp [execOp, hx, hv, hc, this]
theorem bVec : (execOp a.eval { dst, op := .build 31 #[(0, .const (.int .i64 0)), (1, .const (.int .i64 2))], type := ty, pos, after, guard }).run Try.prog w = .ok (.value (.agg (Ve.fc (Rc.v7 0 2 0 0 0 0 0)))) w := by
  have := run_build (P := Try.prog) w 31 #[(0, .int .i64 0), (1, .int .i64 2)] (Ve.fc (Rc.v7 0 2 0 0 0 0 0)) (by kernel_rfl)
  have hc : a.eval (.const (.int .i64 0)) = .int .i64 0 := rfl
  have hc2 : a.eval (.const (.int .i64 2)) = .int .i64 2 := rfl
  simp [execOp, hc, hc2, this]
end
attribute [go_sem ↓] bCmd bVal bIns bVec
set_option maxRecDepth 8000 in
set_option maxHeartbeats 2000000 in
theorem one_any (r s c q : Int) (w : World) :
    Calls Try.prog 16 #[.int .i64 r, .int .i64 s, .int .i64 c, .int .i64 q] w fun e w' => e = .returned (.agg (ci (oneJ r s c q))) ∧ Below w.heap.size w w' := by
  have H := Lib.hid (show ci ⟨r, s, 0, 0, 0, 0, 1, Cm.v9 c 1 1 0 0 0 0 0 5, q, Ve.zeroV, false⟩ = ci (oneJ r s c q) from rfl)
  obtain ⟨U, hU⟩ : ∃ Q_ : World, w.alloc (.cells (ci zeroI) 35) = Q_ := ⟨_, rfl⟩
  have bU : Below w.heap.size w U := hU ▸ below1 w _
  have xU : Bx U w.heap.size (ci zeroI) 35 := hU ▸ Bx.new _ _ _
  have pU := xU.plain (n := 25) rfl
  go_enter Try.func16, Try.ntmps16
  go_wp2
  exact bodyPost_ret (v := .agg (ci (oneJ r s c q))) (Rc.ret_I Try.results16 _ _ (oneJ r s c q) (xU.put _).row) rfl ⟨rfl, below_setRow bU (Nat.le_refl _) _⟩
end Go.Proofs.Ytoncmbglmebkiaa.In
