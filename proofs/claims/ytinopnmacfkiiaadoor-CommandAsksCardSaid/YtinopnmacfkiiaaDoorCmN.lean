/- CommandAsks: the call. -/
import Derived.Test.YtinopnmacfkiiaaDoorCmL
import Derived.Test.YtinopnmacfkiiaaDoorCmBr
namespace Go.Proofs.YtinopnmacfkiiaaDoor.Cm
open Go.RowKit
set_option linter.unusedVariables false
open Go.Proofs.YtinopnmacfkiiaaDoor.Rw
open Go.Proofs.YtinopnmacfkiiaaDoor.Fx (ret_v ret_bool ret_int)
theorem meets_is {a b : Nat → Int} {r : Bool} (h : Hid (meetB a b = r)) (w : World) :
    Calls Tryd.prog 11 #[.agg (fc a), .agg (fc b)] w fun e w' => e = .returned (.bool r) ∧ Below w.heap.size w w' := by
  rw [← h.out]; exact meets_any a b w
theorem rMeets_is {a b : Nat → Int} {r : Bool} (h : Hid (meetB a b = r)) (w : World) :
    Calls Tryd.prog 12 #[.agg (fc a), .agg (fc b)] w fun e w' => e = .returned (.bool r) ∧ Below w.heap.size w w' := by
  rw [← h.out]; exact rMeets_any a b w
theorem moves_is {a : Nat → Int} {r : Bool} (h : Hid (movB a = r)) (w : World) :
    Calls Tryd.prog 13 #[.agg (fc a)] w fun e w' => e = .returned (.bool r) ∧ Below w.heap.size w w' := by
  rw [← h.out]; exact moves_any a w
theorem rMoves_is {a : Nat → Int} {r : Bool} (h : Hid (movB a = r)) (w : World) :
    Calls Tryd.prog 14 #[.agg (fc a)] w fun e w' => e = .returned (.bool r) ∧ Below w.heap.size w w' := by
  rw [← h.out]; exact rMoves_any a w
set_option maxHeartbeats 4000000 in
theorem walkAsks (a b : Nat → Int) (w : World) (ht : Tab w) :
    Calls Tryd.prog 3 #[.agg (fc a), .agg (fc b)] w fun e w' => e = .returned (.bool true) ∧ Below w.heap.size w w' := by
  have HT := Lib.hid ht
  clear ht
  go_enter Tryd.func3, Tryd.ntmps3
  go_wp2
  obtain ⟨W, hW⟩ : ∃ W, W = (w.alloc (.cells (fc a) 23)).alloc (.cells (fc b) 23) := ⟨_, rfl⟩
  have r0 : row W w.heap.size = fc a := by rw [hW]; simp [go_sem]
  have r1 : row W (w.heap.size + 1) = fc b := by rw [hW]; simp [go_sem]
  have hz : w.heap.size + 1 < W.heap.size := by rw [hW]; simp
  have hb0 : Below w.heap.size w W := hW ▸ below2 w _ _
  have hK : ∀ u, Below W.heap.size W u → row u w.heap.size = fc a ∧ row u (w.heap.size + 1) = fc b ∧ Tab u := fun u hu => by
    refine ⟨?_, ?_, HT.out.below (nx hb0 hu)⟩
    · rw [(bcell hu).2.2.1 _ (by omega)]; exact r0
    · rw [(bcell hu).2.2.1 _ (by omega)]; exact r1
  rw [← hW]
  clear hW r0 r1
  refine Rf.region [0, 2, 1, 3, 4, 5] (by kernel_rfl) (by kernel_rfl) (by kernel_rfl) (fun _ _ d _ _ h => by cases d <;> exact h) ?_
  repeat (first | (refine Rf.Steps.skip (by rfl) (by kernel_rfl) (by rfl) ?_; simp only [Act.put, List.setIfInBounds_toArray, List.set_cons_zero, List.set_cons_succ]) | (refine Rf.Steps.pure (v := ?_) (by rfl) (by kernel_rfl) (by rfl) ?_ ?_; rotate_left; (intro w_ hS_; have hk_ := hK w_ hS_; go_simp <;> with_reducible rfl); simp only [Act.put, List.setIfInBounds_toArray, List.set_cons_zero, List.set_cons_succ]))
  refine Rf.Steps.forced (by kernel_rfl) ?_
  refine Rf.One.call (KV a) (fun v => KV.stays a v) (f := ?_) (args := ?_) (by rfl) (by rfl) ?_ ?_ ?_
  rotate_left 2
  · intro w_ hS_; have hk_ := hK w_ hS_; go_simp <;> first | with_reducible rfl | (constructor <;> with_reducible rfl)
  · intro w_ hS_; have hk_ := hK w_ hS_; exact keys_any a _
  intro x u_ hx
  simp only [Act.put, List.setIfInBounds_toArray, List.set_cons_zero, List.set_cons_succ]
  refine Rf.Steps.forced (by kernel_rfl) ?_
  refine Rf.One.call (KV a) (fun v => KV.stays a v) (f := ?_) (args := ?_) (by rfl) (by rfl) ?_ ?_ ?_
  rotate_left 2
  · intro w_ hS_; have hk_ := (fun u (hu : Below W.heap.size W u ∧ _) => hK u hu.1) w_ hS_; go_simp <;> first | with_reducible rfl | (constructor <;> with_reducible rfl)
  · intro w_ hS_; have hk_ := (fun u (hu : Below W.heap.size W u ∧ _) => hK u hu.1) w_ hS_; exact rKeys_any a _
  intro y u_ hy
  simp only [Act.put, List.setIfInBounds_toArray, List.set_cons_zero, List.set_cons_succ]
  clear hx hy
  repeat (first | (refine Rf.Steps.skip (by rfl) (by kernel_rfl) (by rfl) ?_; simp only [Act.put, List.setIfInBounds_toArray, List.set_cons_zero, List.set_cons_succ]) | (refine Rf.Steps.pure (v := ?_) (by rfl) (by kernel_rfl) (by rfl) ?_ ?_; rotate_left; (intro w_ hS_; have hk_ := (fun u (hu : (Below W.heap.size W u ∧ _) ∧ _) => hK u hu.1.1) w_ hS_; go_simp <;> with_reducible rfl); simp only [Act.put, List.setIfInBounds_toArray, List.set_cons_zero, List.set_cons_succ]))
  refine Rf.Steps.nil (by kernel_rfl) ?_
  rintro w1 ⟨⟨hb1, hx⟩, hy⟩
  have hK2 : ∀ u, Below w1.heap.size w1 u → row u w.heap.size = fc a ∧ row u (w.heap.size + 1) = fc b ∧ Tab u := fun u hu => hK u (nx hb1 hu)
  have hbw := nx hb0 hb1
  clear hK hb0 hb1 HT hz
  obtain ⟨m, hm⟩ : ∃ m, meetB a b = m := ⟨_, rfl⟩
  obtain ⟨ck, hck⟩ : ∃ ck, chkE a = ck := ⟨_, rfl⟩
  obtain ⟨mv, hmv⟩ : ∃ mv, movB a = mv := ⟨_, rfl⟩
  have M := Lib.hid hm
  have C := Lib.hid hck
  have V := Lib.hid hmv
  clear hm hck hmv
  rcases hx with ⟨h0, rfl⟩ | ⟨h0, p, cp, rfl, hp, hc⟩
  · rcases hy with ⟨_, rfl⟩ | ⟨h1, _⟩
    · clear h0
      go_wp2
      go_loopw [19] (fun i wr => i = .int .i64 0 ∧ Below w1.heap.size w1 wr) (fun i _ => 0)
      case atStart => exact ⟨rfl, Below.refl _ _⟩
      case round =>
        obtain ⟨rfl, hb⟩ := hrel
        have hK3 : ∀ u, Below wr.heap.size wr u → row u w.heap.size = fc a ∧ row u (w.heap.size + 1) = fc b ∧ Tab u := fun u hu => hK2 u (nx hb hu)
        have hbx := nx hbw hb
        clear hK2
        go_wp2
        refine Rf.region [0, 1, 2, 3, 4, 5, 6, 7, 8, 9, 10, 11, 12, 13, 14, 15, 16, 17, 18, 19, 20, 21, 22, 23, 24] (by kernel_rfl) (by kernel_rfl) (by kernel_rfl) (fun _ _ d _ _ h => by cases d <;> exact h) ?_
        repeat (first | (refine Rf.Steps.skip (by rfl) (by kernel_rfl) (by rfl) ?_; simp only [Act.put, List.setIfInBounds_toArray, List.set_cons_zero, List.set_cons_succ]) | (refine Rf.Steps.pure (v := ?_) (by rfl) (by kernel_rfl) (by rfl) ?_ ?_; rotate_left; (intro w_ hS_; have hk_ := hK3 w_ hS_; go_simp <;> with_reducible rfl); simp only [Act.put, List.setIfInBounds_toArray, List.set_cons_zero, List.set_cons_succ]) | (refine Rf.Steps.call (v := ?_) (f := ?_) (args := ?_) (by rfl) (by kernel_rfl) (by rfl) ?_ ?_ ?_; rotate_left 3; (intro w_ hS_; have hk_ := hK3 w_ hS_; go_simp <;> first | with_reducible rfl | (constructor <;> with_reducible rfl)); (intro w_ hS_; have hk_ := hK3 w_ hS_; first | (go_at_call 9; refine (check_is C _).mono ?_; first | (rintro e w_ ⟨rfl, rfl⟩; refine ⟨?_, Below.refl _ _⟩; with_reducible rfl) | (rintro e w_ ⟨rfl, hb_⟩; refine ⟨?_, hb_⟩; with_reducible rfl)) | (go_at_call 10; refine (rCheck_is C _).mono ?_; first | (rintro e w_ ⟨rfl, rfl⟩; refine ⟨?_, Below.refl _ _⟩; with_reducible rfl) | (rintro e w_ ⟨rfl, hb_⟩; refine ⟨?_, hb_⟩; with_reducible rfl)) | (go_at_call 11; refine (meets_is M _).mono ?_; first | (rintro e w_ ⟨rfl, rfl⟩; refine ⟨?_, Below.refl _ _⟩; with_reducible rfl) | (rintro e w_ ⟨rfl, hb_⟩; refine ⟨?_, hb_⟩; with_reducible rfl)) | (go_at_call 12; refine (rMeets_is M _).mono ?_; first | (rintro e w_ ⟨rfl, rfl⟩; refine ⟨?_, Below.refl _ _⟩; with_reducible rfl) | (rintro e w_ ⟨rfl, hb_⟩; refine ⟨?_, hb_⟩; with_reducible rfl)) | (go_at_call 13; refine (moves_is V _).mono ?_; first | (rintro e w_ ⟨rfl, rfl⟩; refine ⟨?_, Below.refl _ _⟩; with_reducible rfl) | (rintro e w_ ⟨rfl, hb_⟩; refine ⟨?_, hb_⟩; with_reducible rfl)) | (go_at_call 14; refine (rMoves_is V _).mono ?_; first | (rintro e w_ ⟨rfl, rfl⟩; refine ⟨?_, Below.refl _ _⟩; with_reducible rfl) | (rintro e w_ ⟨rfl, hb_⟩; refine ⟨?_, hb_⟩; with_reducible rfl)) | (go_at_call 15; refine (awake_any _ hk_.2.2).mono ?_; first | (rintro e w_ ⟨rfl, rfl⟩; refine ⟨?_, Below.refl _ _⟩; with_reducible rfl) | (rintro e w_ ⟨rfl, hb_⟩; refine ⟨?_, hb_⟩; with_reducible rfl))); simp only [Act.put, List.setIfInBounds_toArray, List.set_cons_zero, List.set_cons_succ]))
        refine Rf.Steps.nil (by kernel_rfl) ?_
        intro w4 hb6
        go_wp2
        go_ret
        exact ⟨rfl, nx hbx hb6⟩
    · exact absurd h0 h1
  · rcases hy with ⟨h1, _⟩ | ⟨_, q, cq, rfl, hq, hd⟩
    · exact absurd h1 h0
    · have HC := Lib.hid hc
      have HD := Lib.hid hd
      have hn := nk_bd a
      obtain ⟨n, hN⟩ : ∃ n, n = nk a := ⟨_, rfl⟩
      rw [← hN] at hn HC HD ⊢
      obtain ⟨hn1, hn2⟩ := hn
      clear hc hd hN h0
      go_wp2
      go_loopw [19] (fun i wr => ∃ k : Nat, k ≤ n ∧ i = .int .i64 k ∧ Below w1.heap.size w1 wr) (fun i _ => n - (intOf i).toNat)
      case atStart => exact ⟨0, Nat.zero_le _, rfl, Below.refl _ _⟩
      case round =>
        obtain ⟨k, hk, rfl, hb⟩ := hrel
        by_cases hlt : k < n
        · have hlt2 : (k : Int) < n := by omega
          have h1 := HC.out k hlt
          have h2 := HD.out k hlt
          obtain ⟨a0, a1⟩ := h1
          obtain ⟨b0, b1⟩ := h2
          have hB := bcell hb
          obtain ⟨c1, f1, r1, p1⟩ := hB
          have hs : keyB (kl k) (ki a k) (kl k) (ki a k) = true := keyB_iff.2 ⟨rfl, rfl⟩
          go_wp2
          go_quiet (fail)
          go_wp2
          go_roundw
          case rel => exact ⟨k + 1, by omega, by go_num, bdrewN hb _⟩
          case measure => simp [intOf]; omega
        · obtain rfl : k = n := by omega
          have hK3 : ∀ u, Below wr.heap.size wr u → row u w.heap.size = fc a ∧ row u (w.heap.size + 1) = fc b ∧ Tab u := fun u hu => hK2 u (nx hb hu)
          have hbx := nx hbw hb
          clear hK2
          go_wp2
          refine Rf.region [0, 1, 2, 3, 4, 5, 6, 7, 8, 9, 10, 11, 12, 13, 14, 15, 16, 17, 18, 19, 20, 21, 22, 23, 24] (by kernel_rfl) (by kernel_rfl) (by kernel_rfl) (fun _ _ d _ _ h => by cases d <;> exact h) ?_
          repeat (first | (refine Rf.Steps.skip (by rfl) (by kernel_rfl) (by rfl) ?_; simp only [Act.put, List.setIfInBounds_toArray, List.set_cons_zero, List.set_cons_succ]) | (refine Rf.Steps.pure (v := ?_) (by rfl) (by kernel_rfl) (by rfl) ?_ ?_; rotate_left; (intro w_ hS_; have hk_ := hK3 w_ hS_; go_simp <;> with_reducible rfl); simp only [Act.put, List.setIfInBounds_toArray, List.set_cons_zero, List.set_cons_succ]) | (refine Rf.Steps.call (v := ?_) (f := ?_) (args := ?_) (by rfl) (by kernel_rfl) (by rfl) ?_ ?_ ?_; rotate_left 3; (intro w_ hS_; have hk_ := hK3 w_ hS_; go_simp <;> first | with_reducible rfl | (constructor <;> with_reducible rfl)); (intro w_ hS_; have hk_ := hK3 w_ hS_; first | (go_at_call 9; refine (check_is C _).mono ?_; first | (rintro e w_ ⟨rfl, rfl⟩; refine ⟨?_, Below.refl _ _⟩; with_reducible rfl) | (rintro e w_ ⟨rfl, hb_⟩; refine ⟨?_, hb_⟩; with_reducible rfl)) | (go_at_call 10; refine (rCheck_is C _).mono ?_; first | (rintro e w_ ⟨rfl, rfl⟩; refine ⟨?_, Below.refl _ _⟩; with_reducible rfl) | (rintro e w_ ⟨rfl, hb_⟩; refine ⟨?_, hb_⟩; with_reducible rfl)) | (go_at_call 11; refine (meets_is M _).mono ?_; first | (rintro e w_ ⟨rfl, rfl⟩; refine ⟨?_, Below.refl _ _⟩; with_reducible rfl) | (rintro e w_ ⟨rfl, hb_⟩; refine ⟨?_, hb_⟩; with_reducible rfl)) | (go_at_call 12; refine (rMeets_is M _).mono ?_; first | (rintro e w_ ⟨rfl, rfl⟩; refine ⟨?_, Below.refl _ _⟩; with_reducible rfl) | (rintro e w_ ⟨rfl, hb_⟩; refine ⟨?_, hb_⟩; with_reducible rfl)) | (go_at_call 13; refine (moves_is V _).mono ?_; first | (rintro e w_ ⟨rfl, rfl⟩; refine ⟨?_, Below.refl _ _⟩; with_reducible rfl) | (rintro e w_ ⟨rfl, hb_⟩; refine ⟨?_, hb_⟩; with_reducible rfl)) | (go_at_call 14; refine (rMoves_is V _).mono ?_; first | (rintro e w_ ⟨rfl, rfl⟩; refine ⟨?_, Below.refl _ _⟩; with_reducible rfl) | (rintro e w_ ⟨rfl, hb_⟩; refine ⟨?_, hb_⟩; with_reducible rfl)) | (go_at_call 15; refine (awake_any _ hk_.2.2).mono ?_; first | (rintro e w_ ⟨rfl, rfl⟩; refine ⟨?_, Below.refl _ _⟩; with_reducible rfl) | (rintro e w_ ⟨rfl, hb_⟩; refine ⟨?_, hb_⟩; with_reducible rfl))); simp only [Act.put, List.setIfInBounds_toArray, List.set_cons_zero, List.set_cons_succ]))
          refine Rf.Steps.nil (by kernel_rfl) ?_
          intro w4 hb6
          go_wp2
          go_ret
          exact ⟨rfl, nx hbx hb6⟩
end Go.Proofs.YtinopnmacfkiiaaDoor.Cm
