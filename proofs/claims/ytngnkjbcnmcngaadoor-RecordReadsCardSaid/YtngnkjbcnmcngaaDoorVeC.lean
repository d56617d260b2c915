/- Under, Covers, Right of package vector and the document's own. -/
import Derived.Test.YtngnkjbcnmcngaaDoorVeB
import Derived.Test.YtngnkjbcnmcngaaDoorRg
namespace Go.Proofs.YtngnkjbcnmcngaaDoor.Ve
open Go.RowKit
set_option linter.unusedVariables false
open Go.Proofs.YtngnkjbcnmcngaaDoor.Fx (nx nd)
set_option maxHeartbeats 400000 in
theorem under_any (a b : Nat → Int) (w : World) :
    Calls Tryd.prog 60 #[.agg (fc a), .agg (fc b)] w fun e w' => e = .returned (.bool (undB a b)) ∧ Below w.heap.size w w' := by
  have hu := max_under a b
  go_enter Tryd.func60, Tryd.ntmps60
  go_wp2_with fail
  refine Rg.region (by kernel_rfl) (by kernel_rfl) (by kernel_rfl) (fun _ _ d _ _ h => by cases d <;> exact h) _ rfl ?_
  repeat (first | (refine Rg.Seq.skip (by rfl) ?_; simp only [Act.put, List.setIfInBounds_toArray, List.set_cons_zero, List.set_cons_succ]) | (refine Rg.Seq.pure (v := ?_) (by rfl) ?_ ?_; rotate_left; (intro w_ hS_; obtain ⟨hc_, hf_⟩ := bcell hS_; go_simp <;> with_reducible rfl); simp only [Act.put, List.setIfInBounds_toArray, List.set_cons_zero, List.set_cons_succ]) | (refine Rg.Seq.call (v := ?_) (f := ?_) (args := ?_) (by rfl) ?_ ?_ ?_; rotate_left 3; (intro w_ hS_; obtain ⟨hc_, hf_⟩ := bcell hS_; go_simp <;> first | with_reducible rfl | (constructor <;> with_reducible rfl)); (intro w_ hS_; first | (go_at_call 66; refine (max_any a b _).mono ?_; rintro e w_ ⟨rfl, hb_⟩; refine ⟨?_, nx hS_ hb_⟩; with_reducible rfl)); simp only [Act.put, List.setIfInBounds_toArray, List.set_cons_zero, List.set_cons_succ]))
  intro w1 hb1
  go_wp2
  go_ret
  exact ⟨rfl, nx (below2 _ _ _) hb1⟩
theorem under_is (a b : Nat → Int) (x : Bool) (h : undB a b = x) (w : World) :
    Calls Tryd.prog 60 #[.agg (fc a), .agg (fc b)] w fun e w' => e = .returned (.bool x) ∧ Below w.heap.size w w' := by
  rw [← h]; exact under_any a b w
set_option maxHeartbeats 400000 in
theorem right_any (v : Nat → Int) (n : Int) (w : World) :
    Calls Tryd.prog 44 #[.agg (fc v), .int .i64 n] w fun e w' => e = .returned (.bool (rightB v n)) ∧ Below w.heap.size w w' := by
  by_cases h1 : n < 1
  · have H := Lib.hid (right_no (v := v) (n := n) (by omega))
    go_enter Tryd.func44, Tryd.ntmps44
    go_wp2
    go_ret
    exact ⟨by rw [H.out]; rfl, below1 _ _⟩
  · have hd1 : decide (n < 1) = false := by simpa using h1
    by_cases h7 : 7 < n
    · have H := Lib.hid (right_no (v := v) (n := n) (by omega))
      go_enter Tryd.func44, Tryd.ntmps44
      go_wp2
      go_ret
      exact ⟨by rw [H.out]; rfl, below1 _ _⟩
    · have hd7 : decide (7 < n) = false := by simpa using h7
      have hr := right_under (v := v) (n := n) (by omega)
      have hl : 1 ≤ n ∧ n ≤ 7 := by omega
      rw [← hr]
      clear hr h1 h7
      by_cases hz : undB zeroV v = true
      · have HZ := Lib.hid hz
        have HL := Lib.hid hl
        rw [hz, Bool.true_and]
        clear hz hl
        go_enter Tryd.func44, Tryd.ntmps44
        go_wp2_with fail
        refine Rg.region (by kernel_rfl) (by kernel_rfl) (by kernel_rfl) (fun _ _ d _ _ h => by cases d <;> exact h) _ rfl ?_
        repeat (first | (refine Rg.Seq.skip (by rfl) ?_; simp only [Act.put, List.setIfInBounds_toArray, List.set_cons_zero, List.set_cons_succ]) | (refine Rg.Seq.pure (v := ?_) (by rfl) ?_ ?_; rotate_left; (intro w_ hS_; obtain ⟨hc_, hf_⟩ := bcell hS_; go_simp <;> with_reducible rfl); simp only [Act.put, List.setIfInBounds_toArray, List.set_cons_zero, List.set_cons_succ]) | (refine Rg.Seq.call (v := ?_) (f := ?_) (args := ?_) (by rfl) ?_ ?_ ?_; rotate_left 3; (intro w_ hS_; obtain ⟨hc_, hf_⟩ := bcell hS_; go_simp <;> first | with_reducible rfl | (constructor <;> with_reducible rfl)); (intro w_ hS_; first | (go_at_call 60; (first | with_reducible refine (under_is zeroV v true HZ.out _).mono ?_ | with_reducible refine (under_any v (fullTo n.toNat) _).mono ?_); rintro e w_ ⟨rfl, hb_⟩; refine ⟨?_, nx hS_ hb_⟩; with_reducible rfl) | (go_at_call 61; refine (full_any n HL.out.1 HL.out.2 _).mono ?_; rintro e w_ ⟨rfl, hb_⟩; refine ⟨?_, nx hS_ hb_⟩; with_reducible rfl)); simp only [Act.put, List.setIfInBounds_toArray, List.set_cons_zero, List.set_cons_succ]))
        intro w1 hb1
        go_wp2
        go_ret
        exact ⟨rfl, nx (below1 _ _) hb1⟩
      · have HZ : Hid (undB zeroV v = false) := Lib.hid (Bool.eq_false_iff.2 hz)
        rw [HZ.out, Bool.false_and]
        clear hz hl
        go_enter Tryd.func44, Tryd.ntmps44
        go_wp2_with fail
        refine Rg.region (by kernel_rfl) (by kernel_rfl) (by kernel_rfl) (fun _ _ d _ _ h => by cases d <;> exact h) _ rfl ?_
        repeat (first | (refine Rg.Seq.skip (by rfl) ?_; simp only [Act.put, List.setIfInBounds_toArray, List.set_cons_zero, List.set_cons_succ]) | (refine Rg.Seq.pure (v := ?_) (by rfl) ?_ ?_; rotate_left; (intro w_ hS_; obtain ⟨hc_, hf_⟩ := bcell hS_; go_simp <;> with_reducible rfl); simp only [Act.put, List.setIfInBounds_toArray, List.set_cons_zero, List.set_cons_succ]) | (refine Rg.Seq.call (v := ?_) (f := ?_) (args := ?_) (by rfl) ?_ ?_ ?_; rotate_left 3; (intro w_ hS_; obtain ⟨hc_, hf_⟩ := bcell hS_; go_simp <;> first | with_reducible rfl | (constructor <;> with_reducible rfl)); (intro w_ hS_; first | (go_at_call 60; refine (under_is zeroV v false HZ.out _).mono ?_; rintro e w_ ⟨rfl, hb_⟩; refine ⟨?_, nx hS_ hb_⟩; with_reducible rfl)); simp only [Act.put, List.setIfInBounds_toArray, List.set_cons_zero, List.set_cons_succ]))
        intro w1 hb1
        go_wp2
        go_ret
        exact ⟨rfl, nx (below1 _ _) hb1⟩
end Go.Proofs.YtngnkjbcnmcngaaDoor.Ve
