/- BookFills: walked. -/
import Derived.Test.YtfnmmknbjfmagaaBlFA
import Derived.Test.YtfnmmknbjfmagaaBlFB
namespace Go.Proofs.Ytfnmmknbjfmagaa.Bk
open Go.RowKit
set_option linter.unusedVariables false
open Go.Proofs.Ytfnmmknbjfmagaa.Rw
open Go.Proofs.Ytfnmmknbjfmagaa.Da
open Go.Proofs.Ytfnmmknbjfmagaa.Le
set_option maxRecDepth 8000 in
set_option maxHeartbeats 1000000 in
theorem walkFillsL (ops : List Op5) (v : Value) (o1 o2 o3 o4 o5 : Int) (w : World) (h : PL (Bs.of w.heap.size) ops v w) (h80 : ¬ ops.length ≤ 80) :
    Calls Try.prog 6 #[v, .agg #[.int .i64 o1, .int .i64 o2, .int .i64 o3, .int .i64 o4, .int .i64 o5]] w fun e w' => e = .returned (.bool true) ∧ Below w.heap.size w w' := by
  obtain ⟨U, hU⟩ : ∃ U, U = w.alloc (.cells #[.int .i64 o1, .int .i64 o2, .int .i64 o3, .int .i64 o4, .int .i64 o5] 29) := ⟨_, rfl⟩
  have hbU : Below w.heap.size w U := hU ▸ below1 w _
  have HPl := Lib.hid (played_long (Bs.of w.heap.size) ops v U (Is.stays eP 29 h hbU) h80)
  have HU := Lib.hid hU
  clear h h80 hU
  go_enter Try.func6, Try.ntmps6
  go_wp2_with fail
  rw [← HU.out]
  refine HPl.out.mono ?_
  rintro e w1 ⟨rfl, hb1⟩
  go_wp2_with fail
  refine (awake_any _).mono ?_
  rintro e w2 ⟨rfl, hb2⟩
  go_wp2
  go_ret
  exact ⟨rfl, nx hbU (nx (nx hb1 (below1 _ _)) hb2)⟩
theorem walkFills (ops : List Op5) (v : Value) (o1 o2 o3 o4 o5 : Int) (w : World) (h : PL (Bs.of w.heap.size) ops v w) (_hw : wfPs ops) (_ho : wfP (o1, o2, o3, o4, o5)) :
    Calls Try.prog 6 #[v, .agg #[.int .i64 o1, .int .i64 o2, .int .i64 o3, .int .i64 o4, .int .i64 o5]] w fun e w' => e = .returned (.bool true) ∧ Below w.heap.size w w' := by
  by_cases h80 : ops.length ≤ 80
  · by_cases h1 : o3 = 1
    · subst h1
      exact walkFillsA ops v o1 o2 o4 o5 w h h80
    · by_cases h2 : o3 = 2
      · subst h2
        exact walkFillsB ops v o1 o2 o4 o5 w h h80
      · exact walkFillsE ops v o1 o2 o3 o4 o5 w h h80 (fun h => h.elim h1 h2)
  · exact walkFillsL ops v o1 o2 o3 o4 o5 w h h80
end Go.Proofs.Ytfnmmknbjfmagaa.Bk
