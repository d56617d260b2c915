/- compare of the landed package account: the order of purses; it lays blocks and draws, nothing else. -/
import Derived.Test.YteandjnbcolphaaAgB
import Derived.Test.YteandjnbcolphaaRe
namespace Go.Proofs.Yteandjnbcolphaa.Ac
open Go.RowKit
set_option linter.unusedVariables false
open Go.Proofs.Yteandjnbcolphaa.Rw
open Go.Proofs.Yteandjnbcolphaa.Sl
open Go.Proofs.Yteandjnbcolphaa.Re (Ext)
def Two (x y : Int) (v : Value) (w : World) : Prop := ∃ b c, v = .slice (some ⟨b, 0, none⟩) 2 c ∧ b < w.heap.size ∧ w.cell? ⟨b, 0, none⟩ = some (.int .i64 x) ∧ w.cell? ⟨b, 1, none⟩ = some (.int .i64 y)
theorem Two.stays (x y : Int) (v : Value) (w w' : World) (h : Two x y v w) (he : Ext w w') : Two x y v w' := by
  obtain ⟨b, c, hv, hb, h0, h1⟩ := h
  have k := he.below
  exact ⟨b, c, hv, Nat.lt_of_lt_of_le hb k.size, by rw [k.cell (p := ⟨b, 0, none⟩) hb]; exact h0, by rw [k.cell (p := ⟨b, 1, none⟩) hb]; exact h1⟩
theorem Two.made (x y : Int) (w : World) (t : TypeId) : Two x y (.slice (some ⟨w.heap.size, 0, none⟩) 2 2) (w.alloc (.cells #[.int .i64 x, .int .i64 y] t)) :=
  ⟨_, 2, rfl, by simp, by simp [go_sem], by simp [go_sem]⟩
theorem orTwo_any (x y : Int) (v : Value) (w : World) (h : Two x y v w) : Calls Try.prog 37 #[v] w fun e w' => ∃ u, e = .returned u ∧ Ext w w' ∧ u = .int .i64 (orI x y) := by
  obtain ⟨b, c, rfl, _, h0, h1⟩ := h
  exact (or_any x y b c w h0 h1).mono fun e w' ⟨he, hw⟩ => ⟨_, he, hw ▸ Ext.refl _, rfl⟩
set_option maxHeartbeats 800000 in
theorem purses_ext (a b c d : Int) (w : World) :
    Calls Try.prog 31 #[.agg #[.int .i64 a, .int .i64 b], .agg #[.int .i64 c, .int .i64 d]] w fun e w' => e = .returned (.int .i64 (cmpP (a, b) (c, d))) ∧ Ext w w' := by
  obtain ⟨r, hr⟩ : ∃ r, cmpP (a, b) (c, d) = r := ⟨_, rfl⟩
  rw [hr]
  have HR := Lib.hid hr
  obtain ⟨x, hx⟩ : ∃ x, cmpI a c = x := ⟨_, rfl⟩
  obtain ⟨y, hy⟩ : ∃ y, cmpI b d = y := ⟨_, rfl⟩
  have HX : ∀ w, Calls Try.prog 38 #[.int .i64 a, .int .i64 c] w fun e w' => e = .returned (.int .i64 x) ∧ w = w' := fun w => by rw [← hx]; exact compare_any a c w
  have HY : ∀ w, Calls Try.prog 38 #[.int .i64 b, .int .i64 d] w fun e w' => e = .returned (.int .i64 y) ∧ w = w' := fun w => by rw [← hy]; exact compare_any b d w
  have HX := Lib.hid HX
  have HY := Lib.hid HY
  have HO : Hid (orI x y = r) := Lib.hid (by rw [← hr, ← hx, ← hy]; rfl)
  clear hr hx hy
  go_enter Try.func31, Try.ntmps31
  go_wp2
  obtain ⟨V, hV⟩ : ∃ V, V = (w.alloc (.cells #[.int .i64 a, .int .i64 b] 24)).alloc (.cells #[.int .i64 c, .int .i64 d] 24) := ⟨_, rfl⟩
  have hbV : Ext w V := hV ▸ (Ext.alloc w _).trans (Ext.alloc _ _)
  have hzV : w.heap.size + 1 < V.heap.size := by rw [hV]; simp
  have hzU : w.heap.size < V.heap.size := by omega
  have hF : ∀ u, Ext V u → u.cell? ⟨w.heap.size, 0, none⟩ = some (.int .i64 a) ∧ u.cell? ⟨w.heap.size, 1, none⟩ = some (.int .i64 b) ∧ u.cell? ⟨w.heap.size + 1, 0, none⟩ = some (.int .i64 c) ∧ u.cell? ⟨w.heap.size + 1, 1, none⟩ = some (.int .i64 d) := fun u hu => by
    have hb := hu.below
    refine ⟨?_, ?_, ?_, ?_⟩
    · rw [hb.cell (p := ⟨w.heap.size, 0, none⟩) hzU, hV]; simp [go_sem]
    · rw [hb.cell (p := ⟨w.heap.size, 1, none⟩) hzU, hV]; simp [go_sem]
    · rw [hb.cell (p := ⟨w.heap.size + 1, 0, none⟩) hzV, hV]; simp [go_sem]
    · rw [hb.cell (p := ⟨w.heap.size + 1, 1, none⟩) hzV, hV]; simp [go_sem]
  rw [← hV]
  clear hV
  refine Re.region [0, 1, 2, 3, 4, 5, 6, 7, 8, 9, 10, 11, 12] (by kernel_rfl) (by kernel_rfl) (by kernel_rfl) (fun _ _ d _ _ h => by cases d <;> exact h) ?_
  repeat (first | (refine Re.Steps.skip (by rfl) (by kernel_rfl) (by rfl) ?_; simp only [Act.put, List.setIfInBounds_toArray, List.set_cons_zero, List.set_cons_succ]) | (refine Re.Steps.pure (v := ?_) (by rfl) (by kernel_rfl) (by rfl) ?_ ?_; rotate_left; (intro w_ hS_; have hk_ := hF w_ hS_; go_simp <;> with_reducible rfl); simp only [Act.put, List.setIfInBounds_toArray, List.set_cons_zero, List.set_cons_succ]) | (refine Re.Steps.call (v := ?_) (f := ?_) (args := ?_) (by rfl) (by kernel_rfl) (by rfl) ?_ ?_ ?_; rotate_left 3; (intro w_ hS_; have hk_ := hF w_ hS_; go_simp <;> first | with_reducible rfl | (constructor <;> with_reducible rfl)); (intro w_ hS_; have hk_ := hF w_ hS_; first | (go_at_call 38; (first | with_reducible refine (HX.out _).mono ?_ | with_reducible refine (HY.out _).mono ?_); first | (rintro e w_ ⟨rfl, rfl⟩; refine ⟨?_, Re.Ext.refl _⟩; with_reducible rfl) | (rintro e w_ ⟨rfl, hb_⟩; refine ⟨?_, hb_⟩; with_reducible rfl))); simp only [Act.put, List.setIfInBounds_toArray, List.set_cons_zero, List.set_cons_succ]))
  refine Re.Steps.forced (by kernel_rfl) ?_
  refine Re.One.val (Two x y) (Two.stays x y) (by rfl) (by rfl) ?_ ?_
  · intro w_ hS_
    refine ⟨_, _, ?_, Ext.alloc w_ (.cells #[.int .i64 x, .int .i64 y] 3), Two.made x y w_ 3⟩
    go_simp
  intro v u_ hv
  simp only [Act.put, List.setIfInBounds_toArray, List.set_cons_zero, List.set_cons_succ]
  refine Re.Steps.forced (by kernel_rfl) ?_
  refine Re.One.call (fun v _ => v = .int .i64 (orI x y)) (fun v w w' h _ => h) (f := ?_) (args := ?_) (by rfl) (by rfl) ?_ ?_ ?_
  rotate_left 2
  · intro w_ hS_; have hk_ := (fun u (hu : Ext V u ∧ Two x y v u) => hu.2) w_ hS_; go_simp <;> first | with_reducible rfl | (constructor <;> with_reducible rfl)
  · intro w_ hS_; have hk_ := (fun u (hu : Ext V u ∧ Two x y v u) => hu.2) w_ hS_; exact orTwo_any x y v _ hk_
  intro z u_ hz
  simp only [Act.put, List.setIfInBounds_toArray, List.set_cons_zero, List.set_cons_succ]
  rw [HO.out] at hz
  subst hz
  repeat (first | (refine Re.Steps.skip (by rfl) (by kernel_rfl) (by rfl) ?_; simp only [Act.put, List.setIfInBounds_toArray, List.set_cons_zero, List.set_cons_succ]) | (refine Re.Steps.pure (v := ?_) (by rfl) (by kernel_rfl) (by rfl) ?_ ?_; rotate_left; (intro w_ hS_; have hk_ := (fun u (hu : _ ∧ _) => True.intro) w_ hS_; go_simp <;> with_reducible rfl); simp only [Act.put, List.setIfInBounds_toArray, List.set_cons_zero, List.set_cons_succ]))
  refine Re.Steps.nil (by kernel_rfl) ?_
  intro w4 hb6
  go_wp2
  go_ret
  exact ⟨ret_int HO.out, hbV.trans hb6.1.1⟩
theorem purses_is {a b c d : Int} {r : Int} (h : Hid (cmpP (a, b) (c, d) = r)) (w : World) :
    Calls Try.prog 31 #[.agg #[.int .i64 a, .int .i64 b], .agg #[.int .i64 c, .int .i64 d]] w fun e w' => e = .returned (.int .i64 r) ∧ Below w.heap.size w w' := by
  rw [← h.out]; exact (purses_ext a b c d w).mono fun e w' ⟨h1, h2⟩ => ⟨h1, h2.below⟩
end Go.Proofs.Yteandjnbcolphaa.Ac
