/- Values and instances in memory: parts of a row, read as wholes. -/
import Derived.Test.YtoncmbglmebkiaaRcIns
import Derived.Test.YtoncmbglmebkiaaCmBr
import Derived.Test.YtoncmbglmebkiaaVeD
import Derived.Test.YtoncmbglmebkiaaBaC
import Derived.Test.YtoncmbglmebkiaaRh
import Derived.Deep.MidRow
import Derived.Lib.Hide
import Derived.StillTailTactics
namespace Go.Proofs.Ytoncmbglmebkiaa.Rc
open Go.RowKit
set_option linter.unusedVariables false
open Go.Proofs.Ytoncmbglmebkiaa.Rw
/-- The n cells of a row from where a pointer points on. -/
def part (n : Nat) (w : World) : Value → Array Value
  | .pointer (some ⟨b, o, none⟩) => (row w b).extract o (o + n)
  | _ => #[]
theorem part_at (n : Nat) (w : World) (b o : Nat) : part n w (.pointer (some ⟨b, o, none⟩)) = (row w b).extract o (o + n) := rfl
theorem run_part {P : Program} {T : TypeId} {n : Nat} {d : TypeDesc} {w : World} {v : Value} (hu : P.underlying T = some d) (hd : d.isRow = true) (hi : (P.info? T).map (·.size) = some (n + 1)) (h : (part (n + 1) w v).size = n + 1) : (Instr.loadAt T v).run P w = .ok (.agg (part (n + 1) w v)) w := by
  unfold part at h
  split at h
  · rename_i b o
    have hr : ∃ cs t fr, w.heap[b]? = some (.cells cs t fr) ∧ row w b = cs := by
      unfold row at h ⊢
      split at h
      · rename_i cs t fr e; exact ⟨cs, t, fr, e, rfl⟩
      · rw [Array.size_extract] at h; simp at h
    obtain ⟨cs, t, fr, e, hrow⟩ := hr
    rw [hrow] at h
    rw [part_at, hrow]
    have := run_loadAt_mid (P := P) w b o T (cs.extract o (o + (n + 1))).toList d (fun j v hj => by
      rw [cell_of_row w b (o + j) cs t fr e]
      rw [Array.getElem?_toList, Array.getElem?_extract] at hj
      split at hj
      · exact hj
      · cases hj) hu hd (by rw [Array.length_toList, h]; exact hi)
    rwa [Array.toArray_toList] at this
  · cases h
/-- The cells of a value, of an instance. -/
def cv (c : Nat → Int) (q : Int) (d : Nat → Int) : Array Value := #[.int .i64 (c 0), .int .i64 (c 1), .int .i64 (c 2), .int .i64 (c 3), .int .i64 (c 4), .int .i64 (c 5), .int .i64 (c 6), .int .i64 (c 7), .int .i64 (c 8), .int .i64 q, .int .i64 (d 0), .int .i64 (d 1), .int .i64 (d 2), .int .i64 (d 3), .int .i64 (d 4), .int .i64 (d 5), .int .i64 (d 6)]
def ci (i : Ins) : Array Value := #[.int .i64 i.pr, .int .i64 i.ps, .int .i64 i.bn, .int .i64 i.br, .int .i64 i.tn, .int .i64 i.tr, .int .i64 i.st, .int .i64 (i.c 0), .int .i64 (i.c 1), .int .i64 (i.c 2), .int .i64 (i.c 3), .int .i64 (i.c 4), .int .i64 (i.c 5), .int .i64 (i.c 6), .int .i64 (i.c 7), .int .i64 (i.c 8), .int .i64 i.q, .int .i64 (i.d 0), .int .i64 (i.d 1), .int .i64 (i.d 2), .int .i64 (i.d 3), .int .i64 (i.d 4), .int .i64 (i.d 5), .int .i64 (i.d 6), .bool i.sm]
theorem cv_size (c : Nat → Int) (q : Int) (d : Nat → Int) : (cv c q d).size = 17 := rfl
theorem ci_size (i : Ins) : (ci i).size = 25 := rfl
theorem cv_cmd (c : Nat → Int) (q : Int) (d : Nat → Int) : (cv c q d).extract 0 9 = Cm.fc c := by simp [cv]; rfl
theorem cv_dep (c : Nat → Int) (q : Int) (d : Nat → Int) : (cv c q d).extract 10 17 = Ve.fc d := by simp [cv]; rfl
theorem cv_all (c : Nat → Int) (q : Int) (d : Nat → Int) : (cv c q d).extract 0 17 = cv c q d := by simp [cv]
theorem ci_place (i : Ins) : (ci i).extract 0 2 = #[.int .i64 i.pr, .int .i64 i.ps] := by simp [ci]
theorem ci_prom (i : Ins) : (ci i).extract 2 4 = #[.int .i64 i.bn, .int .i64 i.br] := by simp [ci]
theorem ci_taken (i : Ins) : (ci i).extract 4 6 = #[.int .i64 i.tn, .int .i64 i.tr] := by simp [ci]
theorem ci_val (i : Ins) : (ci i).extract 7 24 = cv i.c i.q i.d := by simp [ci, cv]
theorem ci_all (i : Ins) : (ci i).extract 0 25 = ci i := by simp [ci]
section
variable (ρ : Operand → Value) (dst : Option Tmp) (ty : TypeId) (pos : String) (after : Array Edge) (guard : Option (Nat × Bool)) (w : World)
theorem ldP (x : Operand) (h : (part 2 w (ρ x)).size = 2) : (execOp ρ { dst, op := .load 24 x, type := ty, pos, after, guard }).run Try.prog w = .ok (.value (.agg (part 2 w (ρ x)))) w := by
  simp [execOp, run_part (n := 1) Try.underlying24 rfl (by kernel_rfl) h]
theorem ldB (x : Operand) (h : (part 2 w (ρ x)).size = 2) : (execOp ρ { dst, op := .load 27 x, type := ty, pos, after, guard }).run Try.prog w = .ok (.value (.agg (part 2 w (ρ x)))) w := by
  simp [execOp, run_part (n := 1) Try.underlying27 rfl (by kernel_rfl) h]
theorem ldC (x : Operand) (h : (part 9 w (ρ x)).size = 9) : (execOp ρ { dst, op := .load 29 x, type := ty, pos, after, guard }).run Try.prog w = .ok (.value (.agg (part 9 w (ρ x)))) w := by
  simp [execOp, run_part (n := 8) Try.underlying29 rfl (by kernel_rfl) h]
theorem ldD (x : Operand) (h : (part 7 w (ρ x)).size = 7) : (execOp ρ { dst, op := .load 31 x, type := ty, pos, after, guard }).run Try.prog w = .ok (.value (.agg (part 7 w (ρ x)))) w := by
  simp [execOp, run_part (n := 6) Try.underlying31 rfl (by kernel_rfl) h]
theorem ldV (x : Operand) (h : (part 17 w (ρ x)).size = 17) : (execOp ρ { dst, op := .load 33 x, type := ty, pos, after, guard }).run Try.prog w = .ok (.value (.agg (part 17 w (ρ x)))) w := by
  simp [execOp, run_part (n := 16) Try.underlying33 rfl (by kernel_rfl) h]
theorem ldI (x : Operand) (h : (part 25 w (ρ x)).size = 25) : (execOp ρ { dst, op := .load 35 x, type := ty, pos, after, guard }).run Try.prog w = .ok (.value (.agg (part 25 w (ρ x)))) w := by
  simp [execOp, run_part (n := 24) Try.underlying35 rfl (by kernel_rfl) h]
end
attribute [go_sem ↓] ldP ldB ldC ldD ldV ldI
attribute [go_sem] part_at cv_size ci_size cv_cmd cv_dep cv_all ci_place ci_prom ci_taken ci_val ci_all
theorem vfc_size (d : Nat → Int) : (Ve.fc d).size = 7 := rfl
attribute [go_sem] vfc_size
theorem two_size (a b : Value) : (#[a, b] : Array Value).size = 2 := rfl
attribute [go_sem] two_size
theorem agg_cells (a : Array Value) : (Value.agg a).cells = a := rfl
attribute [go_sem] agg_cells
/-- Block b is a variable with these cells. -/
theorem row_stays {w w' : World} {b : Nat} {cs : Array Value} (h : row w b = cs) (hb : b < w.heap.size) (k : Below w.heap.size w w') : row w' b = cs := by
  unfold row at h ⊢
  rw [k.block b hb]; exact h
theorem ret_bool {a b : Bool} (h : a = b) : Ending.returned (.bool a) = .returned (.bool b) := by rw [h]
end Go.Proofs.Ytoncmbglmebkiaa.Rc
