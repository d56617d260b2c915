/- VectorCalls: any call of any vectors. -/
import Derived.Test.YthldjcdojbdclaaVeD
namespace Go.Proofs.Ythldjcdojbdclaa.Ve
open Go.RowKit
set_option linter.unusedVariables false
open Go.Proofs.Ythldjcdojbdclaa.Fx (nx nd)
/-- Two vectors and a place lie in the three last blocks. -/
theorem lay3 (w : World) (a b : Nat → Int) (r s : Int) (t u : TypeId) : ∃ W, W = ((w.alloc (.cells (fc a) t)).alloc (.cells (fc b) t)).alloc (.cells #[.int .i64 r, .int .i64 s] u) ∧ Below w.heap.size w W ∧
    ∀ wr, Below W.heap.size W wr → row wr w.heap.size = fc a ∧ row wr (w.heap.size + 1) = fc b ∧ wr.cell? ⟨w.heap.size + 1 + 1, 0, none⟩ = some (.int .i64 r) ∧ wr.cell? ⟨w.heap.size + 1 + 1, 1, none⟩ = some (.int .i64 s) := by
  refine ⟨_, rfl, below3 _ _ _ _, fun wr h => ?_⟩
  obtain ⟨h1, _, h3, _⟩ := bcell h
  refine ⟨?_, ?_, ?_, ?_⟩
  · rw [h3 _ (by simp <;> omega)]; simp [go_sem]
  · rw [h3 _ (by simp)]; simp [go_sem]
  · rw [h1 _ _ (by simp)]; simp [go_sem]
  · rw [h1 _ _ (by simp)]; simp [go_sem]
set_option maxHeartbeats 3200000 in
theorem walkVectorCalls (a b : Nat → Int) (r s : Int) (w : World) :
    Calls Try.prog 3 #[.agg (fc a), .agg (fc b), .agg #[.int .i64 r, .int .i64 s]] w fun e w' => e = .returned (.bool true) ∧ Below w.heap.size w w' := by
  have he : ∀ f, eqV f f = true := eqV_refl
  go_enter Try.func3, Try.ntmps3
  go_wp2_with fail
  obtain ⟨W, hW, hb0, hK⟩ := lay3 w a b r s 23 25
  rw [← hW]
  clear hW
  refine Rg.region (by kernel_rfl) (by kernel_rfl) (by kernel_rfl) (fun _ _ d _ _ h => by cases d <;> exact h) _ rfl ?_
  repeat (first | (refine Rg.Seq.skip (by rfl) ?_; simp only [Act.put, List.setIfInBounds_toArray, List.set_cons_zero, List.set_cons_succ]) | (refine Rg.Seq.pure (v := ?_) (by rfl) ?_ ?_; rotate_left; (intro w_ hS_; have hk_ := hK w_ hS_; go_simp <;> with_reducible rfl); simp only [Act.put, List.setIfInBounds_toArray, List.set_cons_zero, List.set_cons_succ]) | (refine Rg.Seq.call (v := ?_) (f := ?_) (args := ?_) (by rfl) ?_ ?_ ?_; rotate_left 3; (intro w_ hS_; have hk_ := hK w_ hS_; go_simp <;> first | with_reducible rfl | (constructor <;> with_reducible rfl)); (intro w_ hS_; first | (go_at_call 6; refine (right_any a s _).mono ?_; rintro e w_ ⟨rfl, hb_⟩; refine ⟨?_, nx hS_ hb_⟩; with_reducible rfl) | (go_at_call 7; refine (rRight_any a s _).mono ?_; rintro e w_ ⟨rfl, hb_⟩; refine ⟨?_, nx hS_ hb_⟩; with_reducible rfl) | (go_at_call 8; refine (max_any a b _).mono ?_; rintro e w_ ⟨rfl, hb_⟩; refine ⟨?_, nx hS_ hb_⟩; with_reducible rfl) | (go_at_call 9; refine (rMax_any a b _).mono ?_; rintro e w_ ⟨rfl, hb_⟩; refine ⟨?_, nx hS_ hb_⟩; with_reducible rfl) | (go_at_call 10; refine (raise_any a r s _).mono ?_; rintro e w_ ⟨rfl, hb_⟩; refine ⟨?_, nx hS_ hb_⟩; with_reducible rfl) | (go_at_call 11; refine (rRaise_any a r s _).mono ?_; rintro e w_ ⟨rfl, hb_⟩; refine ⟨?_, nx hS_ hb_⟩; with_reducible rfl) | (go_at_call 12; refine (covers_any a r s _).mono ?_; rintro e w_ ⟨rfl, hb_⟩; refine ⟨?_, nx hS_ hb_⟩; with_reducible rfl) | (go_at_call 13; refine (rCovers_any a r s _).mono ?_; rintro e w_ ⟨rfl, hb_⟩; refine ⟨?_, nx hS_ hb_⟩; with_reducible rfl) | (go_at_call 14; refine (under_any a b _).mono ?_; rintro e w_ ⟨rfl, hb_⟩; refine ⟨?_, nx hS_ hb_⟩; with_reducible rfl) | (go_at_call 15; refine (rUnder_any a b _).mono ?_; rintro e w_ ⟨rfl, hb_⟩; refine ⟨?_, nx hS_ hb_⟩; with_reducible rfl) | (go_at_call 16; refine (count_any a _).mono ?_; rintro e w_ ⟨rfl, hb_⟩; refine ⟨?_, nx hS_ hb_⟩; with_reducible rfl) | (go_at_call 17; refine (rCount_any a _).mono ?_; rintro e w_ ⟨rfl, hb_⟩; refine ⟨?_, nx hS_ hb_⟩; with_reducible rfl) | (go_at_call 18; refine (awake_any _).mono ?_; rintro e w_ ⟨rfl, hb_⟩; refine ⟨?_, nx hS_ hb_⟩; with_reducible rfl)); simp only [Act.put, List.setIfInBounds_toArray, List.set_cons_zero, List.set_cons_succ]))
  intro w1 hb1
  go_wp2
  go_ret
  exact ⟨rfl, nx hb0 hb1⟩
end Go.Proofs.Ythldjcdojbdclaa.Ve
