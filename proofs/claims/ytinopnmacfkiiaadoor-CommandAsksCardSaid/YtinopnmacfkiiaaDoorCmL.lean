/- awake of layer 6; CommandMeets, CommandAsks. -/
import Derived.Test.YtinopnmacfkiiaaDoorCmF
import Derived.Test.YtinopnmacfkiiaaDoorCmJ
namespace Go.Proofs.YtinopnmacfkiiaaDoor.Cm
open Go.RowKit
set_option linter.unusedVariables false
open Go.Proofs.YtinopnmacfkiiaaDoor.Rw
open Go.Proofs.YtinopnmacfkiiaaDoor.Fx (ret_v ret_bool ret_int)
def oneS : ByteArray := ⟨#[3, 3, 1, 0, 1, 0, 0, 0, 0, 0, 0, 9, 0, 0, 0, 0, 0, 1, 44, 0, 0, 0, 0, 0, 0, 7, 0, 0, 0, 0]⟩
def xoneS : ByteArray := ⟨#[120, 3, 3, 1, 0, 1, 0, 0, 0, 0, 0, 0, 9, 0, 0, 0, 0, 0, 1, 44, 0, 0, 0, 0, 0, 0, 7, 0, 0, 0, 0]⟩
theorem aw1 : writeS oneC = oneS := by kernel_rfl
theorem aw2 : chkE oneC = 0 := by kernel_rfl
theorem aw3 : readE xoneS 1 = 0 := by kernel_rfl
theorem aw4 : readA xoneS 1 = 31 := by kernel_rfl
theorem aw5 : eqF (readC xoneS 1) oneC = true := by kernel_rfl
theorem aw6 : meetB oneC (v9 5 0 6 1 0 0 0 0 0) = true := by kernel_rfl
theorem aw7 : meetB oneC (v9 5 0 1 0 0 0 0 0 0) = false := by kernel_rfl
theorem aw8 : nk oneC = 2 := by kernel_rfl
theorem awc1 (w : World) (ht : Tab w) : Calls Tryd.prog 16 #[.agg (fc oneC)] w fun e w' => e = .returned (.tuple #[.string oneS, .int .i64 0]) ∧ Below w.heap.size w w' := by
  rw [← aw1, ← aw2]; exact write_any _ _ ht
theorem awc2 (w : World) (ht : Tab w) : Calls Tryd.prog 18 #[.string xoneS, .int .i64 1] w fun e w' => e = .returned (.tuple #[.agg (fc oneC), .int .i64 31, .int .i64 0]) ∧ Below w.heap.size w w' := by
  have h := read_any xoneS 1 (by decide) w ht
  rw [aw3, aw4, show fc (readC xoneS 1) = fc oneC from fc_congr (eqF_iff.1 aw5)] at h
  exact h
theorem awc3 (w : World) : Calls Tryd.prog 9 #[.agg (fc oneC)] w fun e w' => e = .returned (.int .i64 0) ∧ Below w.heap.size w w' := check_is (Lib.hid aw2) w
theorem awc4 (w : World) : Calls Tryd.prog 11 #[.agg (fc oneC), .agg (fc (v9 5 0 6 1 0 0 0 0 0))] w fun e w' => e = .returned (.bool true) ∧ Below w.heap.size w w' := by
  rw [← aw6]; exact meets_any _ _ w
theorem awc5 (w : World) : Calls Tryd.prog 11 #[.agg (fc oneC), .agg (fc (v9 5 0 1 0 0 0 0 0 0))] w fun e w' => e = .returned (.bool false) ∧ Below w.heap.size w w' := by
  rw [← aw7]; exact meets_any _ _ w
def Len2 (v : Value) (_ : World) : Prop := ∃ p c, v = .slice p 2 c
theorem awc6 (w : World) : Calls Tryd.prog 7 #[.agg (fc oneC)] w (Post Len2 w) := by
  refine (keys_any oneC w).mono ?_
  rintro e w' ⟨v, he, hb, h | ⟨_, b, cap, rfl, _⟩⟩
  · exact absurd h.1 (by decide)
  · exact ⟨_, he, hb, _, cap, by rw [aw8]⟩
set_option maxHeartbeats 2000000 in
theorem awake_any (w : World) (ht : Tab w) : Calls Tryd.prog 15 #[] w fun e w' => e = .returned (.bool true) ∧ Below w.heap.size w w' := by
  have HT := Lib.hid ht
  clear ht
  have HX : Hid ((⟨#[120]⟩ : ByteArray) ++ oneS = xoneS) := Lib.hid (by decide)
  have hl : oneS.size = 30 := by decide
  have he : eqF oneC oneC = true := eqF_refl oneC
  go_enter Tryd.func15, Tryd.ntmps15
  go_wp2_with fail
  refine (one_any _).mono ?_
  rintro e w1 ⟨rfl, hb1⟩
  go_wp2_with fail
  refine (awc1 _ (HT.out.below hb1)).mono ?_
  rintro e w2 ⟨rfl, hb2⟩
  have hb3 := nx hb1 hb2
  go_wp2_with fail
  rw [HX.out]
  refine (awc2 _ (HT.out.below hb3)).mono ?_
  rintro e w3 ⟨rfl, hb4⟩
  go_wp2
  obtain ⟨V, hV⟩ : ∃ V, V = w3.alloc (.cells (fc oneC) 23) := ⟨_, rfl⟩
  have hr0 : row V w3.heap.size = fc oneC := by rw [hV]; exact row_new _ _ _ _ rfl
  have hz0 : w3.heap.size < V.heap.size := by rw [hV]; simp
  have hb5 : Below w.heap.size w V := nx hb3 (nx hb4 (hV ▸ below1 w3 _))
  have hK : ∀ u, Below V.heap.size V u → row u w3.heap.size = fc oneC := fun u hu => by rw [(bcell hu).2.2.1 _ hz0]; exact hr0
  rw [← hV]
  clear hV hr0
  refine Rf.region [0, 1, 2, 3, 4, 5, 6, 7, 8, 9, 10, 11, 12, 13, 14, 15, 16, 17, 18, 19, 20, 21, 22, 23, 24, 25, 26, 27, 28, 29, 30, 31, 32, 33, 34, 35, 36, 37, 38, 39, 40, 41, 42] (by kernel_rfl) (by kernel_rfl) (by kernel_rfl) (fun _ _ d _ _ h => by cases d <;> exact h) ?_
  repeat (first | (refine Rf.Steps.skip (by rfl) (by kernel_rfl) (by rfl) ?_; simp only [Act.put, List.setIfInBounds_toArray, List.set_cons_zero, List.set_cons_succ]) | (refine Rf.Steps.pure (v := ?_) (by rfl) (by kernel_rfl) (by rfl) ?_ ?_; rotate_left; (intro w_ hS_; have hk_ := hK w_ hS_; go_simp <;> with_reducible rfl); simp only [Act.put, List.setIfInBounds_toArray, List.set_cons_zero, List.set_cons_succ]) | (refine Rf.Steps.call (v := ?_) (f := ?_) (args := ?_) (by rfl) (by kernel_rfl) (by rfl) ?_ ?_ ?_; rotate_left 3; (intro w_ hS_; have hk_ := hK w_ hS_; go_simp <;> first | with_reducible rfl | (constructor <;> with_reducible rfl)); (intro w_ hS_; have hk_ := hK w_ hS_; first | (go_at_call 28; refine (one_any _).mono ?_; first | (rintro e w_ ⟨rfl, rfl⟩; refine ⟨?_, Below.refl _ _⟩; with_reducible rfl) | (rintro e w_ ⟨rfl, hb_⟩; refine ⟨?_, hb_⟩; with_reducible rfl)) | (go_at_call 9; refine (awc3 _).mono ?_; first | (rintro e w_ ⟨rfl, rfl⟩; refine ⟨?_, Below.refl _ _⟩; with_reducible rfl) | (rintro e w_ ⟨rfl, hb_⟩; refine ⟨?_, hb_⟩; with_reducible rfl)) | (go_at_call 11; (first | with_reducible refine (awc4 _).mono ?_ | with_reducible refine (awc5 _).mono ?_); first | (rintro e w_ ⟨rfl, rfl⟩; refine ⟨?_, Below.refl _ _⟩; with_reducible rfl) | (rintro e w_ ⟨rfl, hb_⟩; refine ⟨?_, hb_⟩; with_reducible rfl))); simp only [Act.put, List.setIfInBounds_toArray, List.set_cons_zero, List.set_cons_succ]))
  refine Rf.Steps.forced (i := 27) (by kernel_rfl) ?_
  refine Rf.One.call (Len2) (fun v w w' h _ => h) (f := ?_) (args := ?_) (by rfl) (by rfl) ?_ ?_ ?_
  rotate_left 2
  · intro w_ hS_; have hk_ := hK w_ hS_; go_simp <;> first | with_reducible rfl | (constructor <;> with_reducible rfl)
  · intro w_ hS_; have hk_ := hK w_ hS_; exact awc6 _
  intro x u_ hx
  simp only [Act.put, List.setIfInBounds_toArray, List.set_cons_zero, List.set_cons_succ]
  obtain ⟨p, cp, rfl⟩ := hx
  repeat (first | (refine Rf.Steps.skip (by rfl) (by kernel_rfl) (by rfl) ?_; simp only [Act.put, List.setIfInBounds_toArray, List.set_cons_zero, List.set_cons_succ]) | (refine Rf.Steps.pure (v := ?_) (by rfl) (by kernel_rfl) (by rfl) ?_ ?_; rotate_left; (intro w_ hS_; have hk_ := (fun u (hu : Below V.heap.size V u ∧ _) => hK u hu.1) w_ hS_; go_simp <;> with_reducible rfl); simp only [Act.put, List.setIfInBounds_toArray, List.set_cons_zero, List.set_cons_succ]) | (refine Rf.Steps.call (v := ?_) (f := ?_) (args := ?_) (by rfl) (by kernel_rfl) (by rfl) ?_ ?_ ?_; rotate_left 3; (intro w_ hS_; have hk_ := (fun u (hu : Below V.heap.size V u ∧ _) => hK u hu.1) w_ hS_; go_simp <;> first | with_reducible rfl | (constructor <;> with_reducible rfl)); (intro w_ hS_; have hk_ := (fun u (hu : Below V.heap.size V u ∧ _) => hK u hu.1) w_ hS_; first | (go_at_call 28; refine (one_any _).mono ?_; first | (rintro e w_ ⟨rfl, rfl⟩; refine ⟨?_, Below.refl _ _⟩; with_reducible rfl) | (rintro e w_ ⟨rfl, hb_⟩; refine ⟨?_, hb_⟩; with_reducible rfl)) | (go_at_call 11; (first | with_reducible refine (awc4 _).mono ?_ | with_reducible refine (awc5 _).mono ?_); first | (rintro e w_ ⟨rfl, rfl⟩; refine ⟨?_, Below.refl _ _⟩; with_reducible rfl) | (rintro e w_ ⟨rfl, hb_⟩; refine ⟨?_, hb_⟩; with_reducible rfl))); simp only [Act.put, List.setIfInBounds_toArray, List.set_cons_zero, List.set_cons_succ]))
  refine Rf.Steps.nil (by kernel_rfl) ?_
  rintro w4 ⟨hb6, _⟩
  go_wp2
  go_ret
  exact ⟨rfl, nx hb5 hb6⟩
end Go.Proofs.YtinopnmacfkiiaaDoor.Cm
