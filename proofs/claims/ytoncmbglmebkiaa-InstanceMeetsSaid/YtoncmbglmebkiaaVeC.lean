/- Under, Covers, Right of package vector and the document's own. -/
import Derived.Test.YtoncmbglmebkiaaVeB
import Derived.Test.YtoncmbglmebkiaaRg
namespace Go.Proofs.Ytoncmbglmebkiaa.Ve
open Go.RowKit
set_option linter.unusedVariables false
open Go.Proofs.Ytoncmbglmebkiaa.Fx (nx nd)
theorem isReplica_is (r : Int) (x : Bool) (h : isR r = x) (w : World) :
    Calls Try.prog 21 #[.int .i64 r] w fun e w' => e = .returned (.bool x) ∧ Below w.heap.size w w' :=
  (isReplica_any r w).mono fun _ _ ⟨h1, h2⟩ => ⟨by rw [h1, h], by rw [h2]; exact Below.refl _ _⟩
set_option maxHeartbeats 400000 in
theorem under_any (a b : Nat → Int) (w : World) :
    Calls Try.prog 36 #[.agg (fc a), .agg (fc b)] w fun e w' => e = .returned (.bool (undB a b)) ∧ Below w.heap.size w w' := by
  have hu := max_under a b
  go_enter Try.func36, Try.ntmps36
  go_wp2_with fail
  refine Rg.region (by kernel_rfl) (by kernel_rfl) (by kernel_rfl) (fun _ _ d _ _ h => by cases d <;> exact h) _ rfl ?_
  repeat (first | (refine Rg.Seq.skip (by rfl) ?_; simp only [Act.put, List.setIfInBounds_toArray, List.set_cons_zero, List.set_cons_succ]) | (refine Rg.Seq.pure (v := ?_) (by rfl) ?_ ?_; rotate_left; (intro w_ hS_; obtain ⟨hc_, hf_⟩ := bcell hS_; go_simp <;> with_reducible rfl); simp only [Act.put, List.setIfInBounds_toArray, List.set_cons_zero, List.set_cons_succ]) | (refine Rg.Seq.call (v := ?_) (f := ?_) (args := ?_) (by rfl) ?_ ?_ ?_; rotate_left 3; (intro w_ hS_; obtain ⟨hc_, hf_⟩ := bcell hS_; go_simp <;> first | with_reducible rfl | (constructor <;> with_reducible rfl)); (intro w_ hS_; first | (go_at_call 39; refine (max_any a b _).mono ?_; rintro e w_ ⟨rfl, hb_⟩; refine ⟨?_, nx hS_ hb_⟩; with_reducible rfl)); simp only [Act.put, List.setIfInBounds_toArray, List.set_cons_zero, List.set_cons_succ]))
  intro w1 hb1
  go_wp2
  go_ret
  exact ⟨rfl, nx (below2 _ _ _) hb1⟩
theorem under_is (a b : Nat → Int) (x : Bool) (h : undB a b = x) (w : World) :
    Calls Try.prog 36 #[.agg (fc a), .agg (fc b)] w fun e w' => e = .returned (.bool x) ∧ Below w.heap.size w w' := by
  rw [← h]; exact under_any a b w
set_option maxHeartbeats 800000 in
theorem covers_any (v : Nat → Int) (r s : Int) (w : World) :
    Calls Try.prog 14 #[.agg (fc v), .agg #[.int .i64 r, .int .i64 s]] w fun e w' => e = .returned (.bool (covB v r s)) ∧ Below w.heap.size w w' := by
  by_cases h : 0 ≤ r ∧ r < 7
  · have HR : Hid (isR r = true) := Lib.hid (by simpa [isR] using h)
    by_cases h1 : 1 ≤ s
    · have hc := raise_cov (v := v) h h1
      clear h
      go_enter Try.func14, Try.ntmps14
      go_wp2_with fail
      refine Rg.region (by kernel_rfl) (by kernel_rfl) (by kernel_rfl) (fun _ _ d _ _ h => by cases d <;> exact h) _ rfl ?_
      repeat (first | (refine Rg.Seq.skip (by rfl) ?_; simp only [Act.put, List.setIfInBounds_toArray, List.set_cons_zero, List.set_cons_succ]) | (refine Rg.Seq.pure (v := ?_) (by rfl) ?_ ?_; rotate_left; (intro w_ hS_; obtain ⟨hc_, hf_⟩ := bcell hS_; go_simp <;> with_reducible rfl); simp only [Act.put, List.setIfInBounds_toArray, List.set_cons_zero, List.set_cons_succ]) | (refine Rg.Seq.call (v := ?_) (f := ?_) (args := ?_) (by rfl) ?_ ?_ ?_; rotate_left 3; (intro w_ hS_; obtain ⟨hc_, hf_⟩ := bcell hS_; go_simp <;> first | with_reducible rfl | (constructor <;> with_reducible rfl)); (intro w_ hS_; first | (go_at_call 21; refine (isReplica_is r true HR.out _).mono ?_; rintro e w_ ⟨rfl, hb_⟩; refine ⟨?_, nx hS_ hb_⟩; with_reducible rfl) | (go_at_call 18; refine (raise_any v r s _).mono ?_; rintro e w_ ⟨rfl, hb_⟩; refine ⟨?_, nx hS_ hb_⟩; with_reducible rfl)); simp only [Act.put, List.setIfInBounds_toArray, List.set_cons_zero, List.set_cons_succ]))
      intro w1 hb1
      go_wp2
      go_ret
      exact ⟨rfl, nx (below2 _ _ _) hb1⟩
    · have H : Hid (covB v r s = false) := Lib.hid (covB_no (fun x => h1 x.2.2.1))
      have hd : decide (1 ≤ s) = false := by simpa using h1
      rw [H.out]
      clear h
      go_enter Try.func14, Try.ntmps14
      go_wp2_with fail
      refine Rg.region (by kernel_rfl) (by kernel_rfl) (by kernel_rfl) (fun _ _ d _ _ h => by cases d <;> exact h) _ rfl ?_
      repeat (first | (refine Rg.Seq.skip (by rfl) ?_; simp only [Act.put, List.setIfInBounds_toArray, List.set_cons_zero, List.set_cons_succ]) | (refine Rg.Seq.pure (v := ?_) (by rfl) ?_ ?_; rotate_left; (intro w_ hS_; obtain ⟨hc_, hf_⟩ := bcell hS_; go_simp <;> with_reducible rfl); simp only [Act.put, List.setIfInBounds_toArray, List.set_cons_zero, List.set_cons_succ]) | (refine Rg.Seq.call (v := ?_) (f := ?_) (args := ?_) (by rfl) ?_ ?_ ?_; rotate_left 3; (intro w_ hS_; obtain ⟨hc_, hf_⟩ := bcell hS_; go_simp <;> first | with_reducible rfl | (constructor <;> with_reducible rfl)); (intro w_ hS_; first | (go_at_call 21; refine (isReplica_is r true HR.out _).mono ?_; rintro e w_ ⟨rfl, hb_⟩; refine ⟨?_, nx hS_ hb_⟩; with_reducible rfl)); simp only [Act.put, List.setIfInBounds_toArray, List.set_cons_zero, List.set_cons_succ]))
      intro w1 hb1
      go_wp2
      go_ret
      exact ⟨rfl, nx (below2 _ _ _) hb1⟩
  · have HR : Hid (isR r = false) := Lib.hid (by simpa [isR] using h)
    have H : Hid (covB v r s = false) := Lib.hid (covB_no (fun x => h ⟨x.1, x.2.1⟩))
    rw [H.out]
    clear h
    go_enter Try.func14, Try.ntmps14
    go_wp2_with fail
    refine Rg.region (by kernel_rfl) (by kernel_rfl) (by kernel_rfl) (fun _ _ d _ _ h => by cases d <;> exact h) _ rfl ?_
    repeat (first | (refine Rg.Seq.skip (by rfl) ?_; simp only [Act.put, List.setIfInBounds_toArray, List.set_cons_zero, List.set_cons_succ]) | (refine Rg.Seq.pure (v := ?_) (by rfl) ?_ ?_; rotate_left; (intro w_ hS_; obtain ⟨hc_, hf_⟩ := bcell hS_; go_simp <;> with_reducible rfl); simp only [Act.put, List.setIfInBounds_toArray, List.set_cons_zero, List.set_cons_succ]) | (refine Rg.Seq.call (v := ?_) (f := ?_) (args := ?_) (by rfl) ?_ ?_ ?_; rotate_left 3; (intro w_ hS_; obtain ⟨hc_, hf_⟩ := bcell hS_; go_simp <;> first | with_reducible rfl | (constructor <;> with_reducible rfl)); (intro w_ hS_; first | (go_at_call 21; refine (isReplica_is r false HR.out _).mono ?_; rintro e w_ ⟨rfl, hb_⟩; refine ⟨?_, nx hS_ hb_⟩; with_reducible rfl)); simp only [Act.put, List.setIfInBounds_toArray, List.set_cons_zero, List.set_cons_succ]))
    intro w1 hb1
    go_wp2
    go_ret
    exact ⟨rfl, nx (below2 _ _ _) hb1⟩
theorem covers_is (v : Nat → Int) (r s : Int) (x : Bool) (h : covB v r s = x) (w : World) :
    Calls Try.prog 14 #[.agg (fc v), .agg #[.int .i64 r, .int .i64 s]] w fun e w' => e = .returned (.bool x) ∧ Below w.heap.size w w' := by
  rw [← h]; exact covers_any v r s w
set_option maxHeartbeats 400000 in
theorem right_any (v : Nat → Int) (n : Int) (w : World) :
    Calls Try.prog 32 #[.agg (fc v), .int .i64 n] w fun e w' => e = .returned (.bool (rightB v n)) ∧ Below w.heap.size w w' := by
  by_cases h1 : n < 1
  · have H := Lib.hid (right_no (v := v) (n := n) (by omega))
    go_enter Try.func32, Try.ntmps32
    go_wp2
    go_ret
    exact ⟨by rw [H.out]; rfl, below1 _ _⟩
  · have hd1 : decide (n < 1) = false := by simpa using h1
    by_cases h7 : 7 < n
    · have H := Lib.hid (right_no (v := v) (n := n) (by omega))
      go_enter Try.func32, Try.ntmps32
      go_wp2
      go_ret
      exact ⟨by rw [H.out]; rfl, below1 _ _⟩
    · have hd7 : decide (7 < n) = false := by simpa using h7
      have hr := right_under (v := v) (n := n) (by omega)
      have hl : 1 ≤ n ∧ n ≤ 7 := by omega
      rw [← hr]
      clear hr h1 h7
      by_cases hz : undB zeroV v = true
      · have HZ := Lib.hid hz
        have HL := Lib.hid hl
        rw [hz, Bool.true_and]
        clear hz hl
        go_enter Try.func32, Try.ntmps32
        go_wp2_with fail
        refine Rg.region (by kernel_rfl) (by kernel_rfl) (by kernel_rfl) (fun _ _ d _ _ h => by cases d <;> exact h) _ rfl ?_
        repeat (first | (refine Rg.Seq.skip (by rfl) ?_; simp only [Act.put, List.setIfInBounds_toArray, List.set_cons_zero, List.set_cons_succ]) | (refine Rg.Seq.pure (v := ?_) (by rfl) ?_ ?_; rotate_left; (intro w_ hS_; obtain ⟨hc_, hf_⟩ := bcell hS_; go_simp <;> with_reducible rfl); simp only [Act.put, List.setIfInBounds_toArray, List.set_cons_zero, List.set_cons_succ]) | (refine Rg.Seq.call (v := ?_) (f := ?_) (args := ?_) (by rfl) ?_ ?_ ?_; rotate_left 3; (intro w_ hS_; obtain ⟨hc_, hf_⟩ := bcell hS_; go_simp <;> first | with_reducible rfl | (constructor <;> with_reducible rfl)); (intro w_ hS_; first | (go_at_call 36; (first | with_reducible refine (under_is zeroV v true HZ.out _).mono ?_ | with_reducible refine (under_any v (fullTo n.toNat) _).mono ?_); rintro e w_ ⟨rfl, hb_⟩; refine ⟨?_, nx hS_ hb_⟩; with_reducible rfl) | (go_at_call 37; refine (full_any n HL.out.1 HL.out.2 _).mono ?_; rintro e w_ ⟨rfl, hb_⟩; refine ⟨?_, nx hS_ hb_⟩; with_reducible rfl)); simp only [Act.put, List.setIfInBounds_toArray, List.set_cons_zero, List.set_cons_succ]))
        intro w1 hb1
        go_wp2
        go_ret
        exact ⟨rfl, nx (below1 _ _) hb1⟩
      · have HZ : Hid (undB zeroV v = false) := Lib.hid (Bool.eq_false_iff.2 hz)
        rw [HZ.out, Bool.false_and]
        clear hz hl
        go_enter Try.func32, Try.ntmps32
        go_wp2_with fail
        refine Rg.region (by kernel_rfl) (by kernel_rfl) (by kernel_rfl) (fun _ _ d _ _ h => by cases d <;> exact h) _ rfl ?_
        repeat (first | (refine Rg.Seq.skip (by rfl) ?_; simp only [Act.put, List.setIfInBounds_toArray, List.set_cons_zero, List.set_cons_succ]) | (refine Rg.Seq.pure (v := ?_) (by rfl) ?_ ?_; rotate_left; (intro w_ hS_; obtain ⟨hc_, hf_⟩ := bcell hS_; go_simp <;> with_reducible rfl); simp only [Act.put, List.setIfInBounds_toArray, List.set_cons_zero, List.set_cons_succ]) | (refine Rg.Seq.call (v := ?_) (f := ?_) (args := ?_) (by rfl) ?_ ?_ ?_; rotate_left 3; (intro w_ hS_; obtain ⟨hc_, hf_⟩ := bcell hS_; go_simp <;> first | with_reducible rfl | (constructor <;> with_reducible rfl)); (intro w_ hS_; first | (go_at_call 36; refine (under_is zeroV v false HZ.out _).mono ?_; rintro e w_ ⟨rfl, hb_⟩; refine ⟨?_, nx hS_ hb_⟩; with_reducible rfl)); simp only [Act.put, List.setIfInBounds_toArray, List.set_cons_zero, List.set_cons_succ]))
        intro w1 hb1
        go_wp2
        go_ret
        exact ⟨rfl, nx (below1 _ _) hb1⟩
end Go.Proofs.Ytoncmbglmebkiaa.Ve
