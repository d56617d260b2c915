/- VectorRaised: what a raised vector covers. -/
import Derived.Test.YthldjcdojbdclaaVeL
namespace Go.Proofs.Ythldjcdojbdclaa.Ve
open Go.RowKit
set_option linter.unusedVariables false
open Go.Proofs.Ythldjcdojbdclaa.Fx (nx nd)
theorem layR (w : World) (v x : Nat → Int) (r s q t : Int) (T U : TypeId) {w1 : World}
    (hb : Below (((w.alloc (.cells (fc v) T)).alloc (.cells #[.int .i64 r, .int .i64 s] U)).alloc (.cells #[.int .i64 q, .int .i64 t] U)).heap.size (((w.alloc (.cells (fc v) T)).alloc (.cells #[.int .i64 r, .int .i64 s] U)).alloc (.cells #[.int .i64 q, .int .i64 t] U)) w1) :
    ∃ W, W = w1.alloc (.cells (fc x) T) ∧ Below w.heap.size w W ∧ ∀ wr, Below W.heap.size W wr →
      row wr w.heap.size = fc v ∧ wr.cell? ⟨w.heap.size + 1, 0, none⟩ = some (.int .i64 r) ∧ wr.cell? ⟨w.heap.size + 1, 1, none⟩ = some (.int .i64 s) ∧
      wr.cell? ⟨w.heap.size + 1 + 1, 0, none⟩ = some (.int .i64 q) ∧ wr.cell? ⟨w.heap.size + 1 + 1, 1, none⟩ = some (.int .i64 t) ∧ row wr w1.heap.size = fc x := by
  have hz : (w1.alloc (.cells (fc x) T)).heap.size = w1.heap.size + 1 := by simp
  refine ⟨_, rfl, nx (nx (below3 _ _ _ _) hb) (below1 _ _), fun wr h => ?_⟩
  obtain ⟨h1, _, h3, _⟩ := bcell (nx (nx hb (below1 w1 (.cells (fc x) T))) h)
  obtain ⟨_, _, h6, _⟩ := bcell h
  refine ⟨?_, ?_, ?_, ?_, ?_, ?_⟩
  · rw [h3 _ (by simp <;> omega)]; simp [go_sem]
  · rw [h1 _ _ (by simp)]; simp [go_sem]
  · rw [h1 _ _ (by simp)]; simp [go_sem]
  · rw [h1 _ _ (by simp)]; simp [go_sem]
  · rw [h1 _ _ (by simp)]; simp [go_sem]
  · rw [h6 _ (by omega)]; exact row_new _ _ _ _ rfl
set_option maxHeartbeats 3200000 in
theorem walkVectorRaised (v : Nat → Int) (r s q t : Int) (w : World) :
    Calls Try.prog 5 #[.agg (fc v), .agg #[.int .i64 r, .int .i64 s], .agg #[.int .i64 q, .int .i64 t]] w fun e w' => e = .returned (.bool true) ∧ Below w.heap.size w w' := by
  have HU := Lib.hid (und_raise v r s)
  obtain ⟨x, hx⟩ : ∃ x, x = raiseV v r s := ⟨_, rfl⟩
  rw [← hx] at HU
  have HX := Lib.hid hx
  have HXs := Lib.hid hx.symm
  clear hx
  go_enter Try.func5, Try.ntmps5
  go_wp2_with fail
  refine (raise_any v r s _).mono ?_
  rintro e w1 ⟨rfl, hb1⟩
  rw [HXs.out]
  obtain ⟨W, hW, hb0, hK⟩ := layR w v x r s q t 23 25 hb1
  have y0 := hb1.size
  simp at y0
  have y1 : w.heap.size < w1.heap.size := by omega
  have y2 : w.heap.size + 1 < w1.heap.size := by omega
  have y3 : w.heap.size + 1 + 1 < w1.heap.size := by omega
  obtain ⟨chb1, fhb1⟩ := bcell hb1
  go_wp2_with fail
  rw [← hW]
  clear hW chb1 fhb1 y0 y1 y2 y3 hb1
  refine (under_is v x true HU.out _).mono ?_
  rintro e w2 ⟨rfl, hb2⟩
  replace hK := fun wr h => hK wr (nx hb2 h)
  replace hb2 := nx hb0 hb2
  clear hb0
  have hF := hK w2 (Below.refl _ _)
  go_wp2_with fail
  all_goals try (
    have hq : covB x q t = covB v q t := by rw [HX.out]; exact cov_other (by omega)
    have hq2 : q = r → covB x r t = covB v r t := fun e => e ▸ hq
    refine Rg.region (by kernel_rfl) (by kernel_rfl) (by kernel_rfl) (fun _ _ d _ _ h => by cases d <;> exact h) _ rfl ?_
    repeat (first | (refine Rg.Seq.skip (by rfl) ?_; simp only [Act.put, List.setIfInBounds_toArray, List.set_cons_zero, List.set_cons_succ]) | (refine Rg.Seq.pure (v := ?_) (by rfl) ?_ ?_; rotate_left; (intro w_ hS_; have hk_ := hK w_ hS_; go_simp <;> with_reducible rfl); simp only [Act.put, List.setIfInBounds_toArray, List.set_cons_zero, List.set_cons_succ]) | (refine Rg.Seq.call (v := ?_) (f := ?_) (args := ?_) (by rfl) ?_ ?_ ?_; rotate_left 3; (intro w_ hS_; have hk_ := hK w_ hS_; go_simp <;> first | with_reducible rfl | (constructor <;> with_reducible rfl)); (intro w_ hS_; first | (go_at_call 12; refine (covers_any _ _ _ _).mono ?_; rintro e w_ ⟨rfl, hb_⟩; refine ⟨?_, nx hS_ hb_⟩; with_reducible rfl) | (go_at_call 18; refine (awake_any _).mono ?_; rintro e w_ ⟨rfl, hb_⟩; refine ⟨?_, nx hS_ hb_⟩; with_reducible rfl)); simp only [Act.put, List.setIfInBounds_toArray, List.set_cons_zero, List.set_cons_succ]))
    intro w3 hb3
    go_wp2
    go_ret
    exact ⟨rfl, nx hb2 hb3⟩)
  refine (covers_is x r s true (by rw [HX.out]; exact cov_raised (by omega) (by omega) (by omega)) _).mono ?_
  rintro e w3 ⟨rfl, hb3⟩
  replace hK := fun wr h => hK wr (nx hb3 h)
  replace hb3 := nx hb2 hb3
  clear hb2 hF
  have hF := hK w3 (Below.refl _ _)
  go_wp2_with fail
  all_goals try (
    have hq : covB x q t = covB v q t := by rw [HX.out]; exact cov_other (by omega)
    have hq2 : q = r → covB x r t = covB v r t := fun e => e ▸ hq
    refine Rg.region (by kernel_rfl) (by kernel_rfl) (by kernel_rfl) (fun _ _ d _ _ h => by cases d <;> exact h) _ rfl ?_
    repeat (first | (refine Rg.Seq.skip (by rfl) ?_; simp only [Act.put, List.setIfInBounds_toArray, List.set_cons_zero, List.set_cons_succ]) | (refine Rg.Seq.pure (v := ?_) (by rfl) ?_ ?_; rotate_left; (intro w_ hS_; have hk_ := hK w_ hS_; go_simp <;> with_reducible rfl); simp only [Act.put, List.setIfInBounds_toArray, List.set_cons_zero, List.set_cons_succ]) | (refine Rg.Seq.call (v := ?_) (f := ?_) (args := ?_) (by rfl) ?_ ?_ ?_; rotate_left 3; (intro w_ hS_; have hk_ := hK w_ hS_; go_simp <;> first | with_reducible rfl | (constructor <;> with_reducible rfl)); (intro w_ hS_; first | (go_at_call 12; refine (covers_any _ _ _ _).mono ?_; rintro e w_ ⟨rfl, hb_⟩; refine ⟨?_, nx hS_ hb_⟩; with_reducible rfl) | (go_at_call 18; refine (awake_any _).mono ?_; rintro e w_ ⟨rfl, hb_⟩; refine ⟨?_, nx hS_ hb_⟩; with_reducible rfl)); simp only [Act.put, List.setIfInBounds_toArray, List.set_cons_zero, List.set_cons_succ]))
    intro w4 hb4
    go_wp2
    go_ret
    exact ⟨rfl, nx hb3 hb4⟩)
  refine (covers_is x r t true (by rw [HX.out]; exact cov_raised (by omega) (by omega) (by omega)) _).mono ?_
  rintro e w4 ⟨rfl, hb4⟩
  go_wp2_with fail
  refine (awake_any _).mono ?_
  rintro e w5 ⟨rfl, hb5⟩
  go_wp2
  go_ret
  exact ⟨rfl, nx hb3 (nx hb4 hb5)⟩
end Go.Proofs.Ythldjcdojbdclaa.Ve
