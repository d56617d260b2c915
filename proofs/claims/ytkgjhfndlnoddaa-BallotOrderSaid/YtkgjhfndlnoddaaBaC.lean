/- awake of the law of layer 4. -/
import Derived.Test.YtkgjhfndlnoddaaBaB
namespace Go.Proofs.Ytkgjhfndlnoddaa.Ba
open Go.RowKit
set_option linter.unusedVariables false
open Go.Proofs.Ytkgjhfndlnoddaa.Fx (nx nd)
theorem less_is (a b c d : Int) (x : Bool) (h : lessB a b c d = x) (w : World) :
    Calls Try.prog 10 #[.agg #[.int .i64 a, .int .i64 b], .agg #[.int .i64 c, .int .i64 d]] w fun e w' => e = .returned (.bool x) ∧ Below w.heap.size w w' := by
  rw [← h]; exact less_any a b c d w
theorem later_is (a b c d x y : Int) (h : latN a b c d = x ∧ latR a b c d = y) (w : World) :
    Calls Try.prog 14 #[.agg #[.int .i64 a, .int .i64 b], .agg #[.int .i64 c, .int .i64 d]] w fun e w' => e = .returned (.agg #[.int .i64 x, .int .i64 y]) ∧ Below w.heap.size w w' := by
  rw [← h.1, ← h.2]; exact later_any a b c d w
theorem valid_is (a b : Int) (x : Bool) (h : valB a b = x) (w : World) :
    Calls Try.prog 8 #[.agg #[.int .i64 a, .int .i64 b]] w fun e w' => e = .returned (.bool x) ∧ Below w.heap.size w w' := by
  rw [← h]; exact valid_any a b w
theorem next_is (n r p x y z : Int) (h : nextN n r p = x ∧ nextR n r p = y ∧ nextE n r p = z) (w : World) :
    Calls Try.prog 6 #[.agg #[.int .i64 n, .int .i64 r], .int .i64 p] w fun e w' => e = .returned (.tuple #[.agg #[.int .i64 x, .int .i64 y], .int .i64 z]) ∧ Below w.heap.size w w' := by
  rw [← h.1, ← h.2.1, ← h.2.2]; exact next_any n r p w
/-- A ballot lies in the last block. -/
theorem lies1 (w : World) (a b : Int) (t : TypeId) : ∃ W, W = w.alloc (.cells #[.int .i64 a, .int .i64 b] t) ∧ Below w.heap.size w W ∧
    ∀ wr, Below W.heap.size W wr → Below W.heap.size W wr ∧ wr.cell? ⟨w.heap.size, 0, none⟩ = some (.int .i64 a) ∧ wr.cell? ⟨w.heap.size, 1, none⟩ = some (.int .i64 b) :=
  ⟨_, rfl, below1 _ _, fun _ h => ⟨h, lies w a b t h⟩⟩
set_option maxHeartbeats 800000 in
theorem awake_any (w : World) :
    Calls Try.prog 16 #[] w fun e w' => e = .returned (.bool true) ∧ Below w.heap.size w w' := by
  have he : ∀ w, (binOp .eql 23 (.agg #[.int .i64 4, .int .i64 0]) (.agg #[.int .i64 4, .int .i64 0])).run Try.prog w = .ok (.bool true) w := fun w => eqlB 4 0 4 0 w
  have hgd := fun op x y => guardB op x y 4 0 4 0
  go_enter Try.func16, Try.ntmps16
  go_wp2_with fail
  refine (next_is 3 2 0 4 0 0 (by decide) _).mono ?_
  rintro e w1 ⟨rfl, hb1⟩
  go_wp2_with fail
  obtain ⟨W, hW, hb0, hK⟩ := lies1 w1 4 0 23
  rw [← hW]
  clear hW
  first | go_region_held3 (fun wr => Below W.heap.size W wr ∧ wr.cell? ⟨w1.heap.size, 0, none⟩ = some (.int .i64 4) ∧ wr.cell? ⟨w1.heap.size, 1, none⟩ = some (.int .i64 0)) (first | assumption | (refine hK _ ?_; first | exact (Below.refl _ _).drew | exact nx (show Below W.heap.size W _ from (‹Below W.heap.size W _ ∧ _›).1) hb2)) ((first | (go_at_call 14; refine (later_is 4 0 0 5 4 0 (by decide) _).mono ?_; rintro e w_ ⟨rfl, hb2⟩) | (go_at_call 10; refine (less_is 3 6 4 0 true (by decide) _).mono ?_; rintro e w_ ⟨rfl, hb2⟩) | (go_at_call 12; refine (first_any 5 _).mono ?_; rintro e w_ ⟨rfl, hb2⟩) | (go_at_call 8; refine (valid_is 0 7 false (by decide) _).mono ?_; rintro e w_ ⟨rfl, hb2⟩))) | fail "held"
  all_goals have hb2 := (‹Below W.heap.size W _ ∧ _›).1
  go_wp2
  go_ret
  exact ⟨rfl, nx (nx hb1 hb0) hb2⟩
end Go.Proofs.Ytkgjhfndlnoddaa.Ba
