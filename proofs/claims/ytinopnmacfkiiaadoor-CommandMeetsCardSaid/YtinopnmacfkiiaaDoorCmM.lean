/- CommandMeets: the call. -/
import Derived.Test.YtinopnmacfkiiaaDoorCmL
namespace Go.Proofs.YtinopnmacfkiiaaDoor.Cm
open Go.RowKit
set_option linter.unusedVariables false
open Go.Proofs.YtinopnmacfkiiaaDoor.Rw
open Go.Proofs.YtinopnmacfkiiaaDoor.Fx (ret_v ret_bool ret_int)
theorem cells_of {w : World} {b : Nat} {c : Nat → Int} (h : row w b = fc c) : ∀ o, o < 9 → w.cell? ⟨b, o, none⟩ = some (.int .i64 (c o)) := fun o ho => by
  rw [cell_row (n := 8) w b o (by rw [h]; exact fc_size c), h, fc_at c o ho]
theorem meets_is {a b : Nat → Int} {r : Bool} (h : Hid (meetB a b = r)) (w : World) :
    Calls Tryd.prog 11 #[.agg (fc a), .agg (fc b)] w fun e w' => e = .returned (.bool r) ∧ Below w.heap.size w w' := by
  rw [← h.out]; exact meets_any a b w
/-- The two kinds; whether the first k of them have a lane. -/
def kd (a b : Nat → Int) (k : Nat) : Int := if k = 0 then a 2 else b 2
def lanes (a b : Nat → Int) : Nat → Bool
  | 0 => true
  | k + 1 => lanes a b k && laneB (kd a b k)
theorem meet_form {a b : Nat → Int} (ha : a 2 ≠ 0) (hb : b 2 ≠ 0) : meetB a b = ((a 0 == b 0) || (lanes a b 2 && (a 3 == b 3))) := by
  have e : lanes a b 2 = (laneB (a 2) && laneB (b 2)) := by simp [lanes, kd]
  unfold meetB; rw [e]
  have h1 : (a 2 != 0) = true := by simp [ha]
  have h2 : (b 2 != 0) = true := by simp [hb]
  rw [h1, h2]; simp
set_option maxHeartbeats 4000000 in
theorem walkMeets (a b : Nat → Int) (w : World) (ht : Tab w) :
    Calls Tryd.prog 6 #[.agg (fc a), .agg (fc b)] w fun e w' => e = .returned (.bool true) ∧ Below w.heap.size w w' := by
  have HT := Lib.hid ht
  clear ht
  obtain ⟨m, hm⟩ : ∃ m, meetB a b = m := ⟨_, rfl⟩
  have M1 := Lib.hid hm
  have M2 := Lib.hid ((meetB_comm b a).trans hm)
  have M3 := Lib.hid (meetB_zero a)
  have M4 := Lib.hid (meetB_zero' b)
  clear hm
  go_enter Tryd.func6, Tryd.ntmps6
  go_wp2
  obtain ⟨W, hW⟩ : ∃ W, W = ((w.alloc (.cells (fc a) 23)).alloc (.cells (fc b) 23)).alloc (.cells (fc zeroF) 23) := ⟨_, rfl⟩
  have r0 : row W w.heap.size = fc a := by rw [hW]; simp [go_sem]
  have r1 : row W (w.heap.size + 1) = fc b := by rw [hW]; simp [go_sem]
  have r2 : row W (w.heap.size + 1 + 1) = fc zeroF := by rw [hW]; simp [go_sem]
  have hz : w.heap.size + 1 + 1 < W.heap.size := by rw [hW]; simp
  have hb0 : Below w.heap.size w W := hW ▸ below3 w _ _ _
  have hK : ∀ u, Below W.heap.size W u → row u w.heap.size = fc a ∧ row u (w.heap.size + 1) = fc b ∧ row u (w.heap.size + 1 + 1) = fc zeroF := fun u hu => by
    refine ⟨?_, ?_, ?_⟩
    · rw [(bcell hu).2.2.1 _ (by omega)]; exact r0
    · rw [(bcell hu).2.2.1 _ (by omega)]; exact r1
    · rw [(bcell hu).2.2.1 _ (by omega)]; exact r2
  rw [← hW]
  clear hW r0 r1 r2
  refine Rf.region [0, 1, 2, 3, 4, 5, 6, 7, 8, 9, 10, 11, 12, 13, 14, 15, 16] (by kernel_rfl) (by kernel_rfl) (by kernel_rfl) (fun _ _ d _ _ h => by cases d <;> exact h) ?_
  repeat (first | (refine Rf.Steps.skip (by rfl) (by kernel_rfl) (by rfl) ?_; simp only [Act.put, List.setIfInBounds_toArray, List.set_cons_zero, List.set_cons_succ]) | (refine Rf.Steps.pure (v := ?_) (by rfl) (by kernel_rfl) (by rfl) ?_ ?_; rotate_left; (intro w_ hS_; have hk_ := hK w_ hS_; go_simp <;> with_reducible rfl); simp only [Act.put, List.setIfInBounds_toArray, List.set_cons_zero, List.set_cons_succ]) | (refine Rf.Steps.call (v := ?_) (f := ?_) (args := ?_) (by rfl) (by kernel_rfl) (by rfl) ?_ ?_ ?_; rotate_left 3; (intro w_ hS_; have hk_ := hK w_ hS_; go_simp <;> first | with_reducible rfl | (constructor <;> with_reducible rfl)); (intro w_ hS_; have hk_ := hK w_ hS_; first | (go_at_call 11; (first | with_reducible refine (meets_is M3 _).mono ?_ | with_reducible refine (meets_is M4 _).mono ?_ | with_reducible refine (meets_is M1 _).mono ?_ | with_reducible refine (meets_is M2 _).mono ?_); first | (rintro e w_ ⟨rfl, rfl⟩; refine ⟨?_, Below.refl _ _⟩; with_reducible rfl) | (rintro e w_ ⟨rfl, hb_⟩; refine ⟨?_, hb_⟩; with_reducible rfl))); simp only [Act.put, List.setIfInBounds_toArray, List.set_cons_zero, List.set_cons_succ]))
  refine Rf.Steps.nil (by kernel_rfl) ?_
  intro w1 hb1
  have hF := hK w1 hb1
  obtain ⟨q0, q1, q2⟩ := hF
  have c0 := cells_of q0
  have c1 := cells_of q1
  have hz1 : w.heap.size + 1 + 1 < w1.heap.size := by have := hb1.size; omega
  have hbw := nx hb0 hb1
  clear hb0
  by_cases ha : a 2 = 0
  · have hm : m = false := by rw [← M1.out]; exact meet_none a b ha
    have hd : (a 2 == 0) = true := by simpa using ha
    subst hm
    clear ha
    go_wp2_with fail
    refine (meets_is M1 _).mono ?_
    rintro e w2 ⟨rfl, hb2⟩
    go_wp2_with fail
    refine (awake_any _ (HT.out.below (nx hbw hb2))).mono ?_
    rintro e w3 ⟨rfl, hb3⟩
    go_wp2
    go_ret
    exact ⟨rfl, nx hbw (nx hb2 hb3)⟩
  · by_cases hb : b 2 = 0
    · have hm : m = false := by rw [← M1.out, meetB_comm]; exact meet_none b a hb
      have hd : (a 2 == 0) = false := by simpa using ha
      have hd2 : (b 2 == 0) = true := by simpa using hb
      subst hm
      clear ha hb
      go_wp2_with fail
      refine (meets_is M1 _).mono ?_
      rintro e w2 ⟨rfl, hb2⟩
      go_wp2_with fail
      refine (awake_any _ (HT.out.below (nx hbw hb2))).mono ?_
      rintro e w3 ⟨rfl, hb3⟩
      go_wp2
      go_ret
      exact ⟨rfl, nx hbw (nx hb2 hb3)⟩
    · have hd : (a 2 == 0) = false := by simpa using ha
      have hd2 : (b 2 == 0) = false := by simpa using hb
      have HM := Lib.hid (meet_form ha hb)
      clear ha hb
      go_wp2
      obtain ⟨V, hV⟩ : ∃ V, V = w1.alloc (.cells #[.int .i64 (a 2), .int .i64 (b 2)] 3) := ⟨_, rfl⟩
      have hbV : Below w1.heap.size w1 V := hV ▸ below1 w1 _
      have HC : Hid (∀ k, k < 2 → V.cell? ⟨w1.heap.size, k, none⟩ = some (.int .i64 (kd a b k))) := Lib.hid fun k hk => by
        rw [hV]
        match k, hk with
        | 0, _ => simp [go_sem, kd]
        | 1, _ => simp [go_sem, kd]
      rw [← hV]
      clear hV
      go_loop [6, 48] (fun l i => ∃ k : Nat, k ≤ 2 ∧ i = .int .i64 k ∧ l = .bool (lanes a b k)) (fun _ i => 2 - (intOf i).toNat)
      case atStart => exact ⟨0, Nat.zero_le _, rfl, rfl⟩
      case round =>
        obtain ⟨k, hk, rfl, rfl⟩ := hrel
        by_cases hlt : k < 2
        · have hlt2 : (k : Int) < 2 := by omega
          have hc := HC.out k hlt
          have HL : Hid (lanes a b (k + 1) = (lanes a b k && laneB (kd a b k))) := Lib.hid rfl
          obtain ⟨κ, hκ⟩ : ∃ κ, kd a b k = κ := ⟨_, rfl⟩
          rw [hκ] at hc HL
          clear hκ
          cases hl : lanes a b k
          · rw [hl] at HL
            go_wp2
            go_round
            case rel => exact ⟨k + 1, by omega, by go_num, by rw [HL.out]; rfl⟩
            case measure => simp [intOf]; omega
          · rw [hl] at HL
            by_cases h : κ = 3 ∨ κ = 4 ∨ κ = 5 ∨ κ = 6 ∨ κ = 8
            · have HB := Lib.hid (laneB_of κ h)
              rcases h with rfl | rfl | rfl | rfl | rfl
              all_goals
                go_wp2
                go_round
                case rel => exact ⟨k + 1, by omega, by go_num, by rw [HL.out, HB.out]; rfl⟩
                case measure => simp [intOf]; omega
            · have h3 : (κ == 3) = false := by simp; omega
              have h4 : (κ == 4) = false := by simp; omega
              have h5 : (κ == 5) = false := by simp; omega
              have h6 : (κ == 6) = false := by simp; omega
              have h8 : (κ == 8) = false := by simp; omega
              have HB := Lib.hid (laneB_no κ h3 h4 h5 h6 h8)
              clear h
              go_wp2
              go_round
              case rel => exact ⟨k + 1, by omega, by go_num, by rw [HL.out, HB.out]; rfl⟩
              case measure => simp [intOf]; omega
        · obtain rfl : k = 2 := by omega
          have hK2 : ∀ u, Below V.heap.size V u → row u w.heap.size = fc a ∧ row u (w.heap.size + 1) = fc b ∧ (∀ o, o < 9 → u.cell? ⟨w.heap.size, o, none⟩ = some (.int .i64 (a o))) ∧ (∀ o, o < 9 → u.cell? ⟨w.heap.size + 1, o, none⟩ = some (.int .i64 (b o))) ∧ Tab u := fun u hu => by
            have hb9 := nx hb1 (nx hbV hu)
            have hF := hK u hb9
            exact ⟨hF.1, hF.2.1, cells_of hF.1, cells_of hF.2.1, HT.out.below (nx hbw (nx hbV hu))⟩
          have hbx := nx hbw hbV
          clear HC hK c0 c1 q0 q1 q2
          obtain ⟨lv, hlv⟩ : ∃ lv, lanes a b 2 = lv := ⟨_, rfl⟩
          rw [hlv] at HM ⊢
          clear hlv
          cases hq0 : (a 0 == b 0)
          · cases lv
            · obtain rfl : m = false := by rw [← M1.out, HM.out, hq0]; rfl
              clear HM M2 M3 M4
              go_wp2
              refine Rf.region [0, 1, 2, 3, 4, 5, 6, 7, 8, 9, 10, 11, 12, 13, 14, 15, 16, 17, 18, 19, 20, 21, 22] (by kernel_rfl) (by kernel_rfl) (by kernel_rfl) (fun _ _ d _ _ h => by cases d <;> exact h) ?_
              repeat (first | (refine Rf.Steps.skip (by rfl) (by kernel_rfl) (by rfl) ?_; simp only [Act.put, List.setIfInBounds_toArray, List.set_cons_zero, List.set_cons_succ]) | (refine Rf.Steps.pure (v := ?_) (by rfl) (by kernel_rfl) (by rfl) ?_ ?_; rotate_left; (intro w_ hS_; have hk_ := hK2 w_ hS_; go_simp <;> with_reducible rfl); simp only [Act.put, List.setIfInBounds_toArray, List.set_cons_zero, List.set_cons_succ]) | (refine Rf.Steps.call (v := ?_) (f := ?_) (args := ?_) (by rfl) (by kernel_rfl) (by rfl) ?_ ?_ ?_; rotate_left 3; (intro w_ hS_; have hk_ := hK2 w_ hS_; go_simp <;> first | with_reducible rfl | (constructor <;> with_reducible rfl)); (intro w_ hS_; have hk_ := hK2 w_ hS_; first | (go_at_call 11; refine (meets_is M1 _).mono ?_; first | (rintro e w_ ⟨rfl, rfl⟩; refine ⟨?_, Below.refl _ _⟩; with_reducible rfl) | (rintro e w_ ⟨rfl, hb_⟩; refine ⟨?_, hb_⟩; with_reducible rfl)) | (go_at_call 15; refine (awake_any _ hk_.2.2.2.2).mono ?_; first | (rintro e w_ ⟨rfl, rfl⟩; refine ⟨?_, Below.refl _ _⟩; with_reducible rfl) | (rintro e w_ ⟨rfl, hb_⟩; refine ⟨?_, hb_⟩; with_reducible rfl))); simp only [Act.put, List.setIfInBounds_toArray, List.set_cons_zero, List.set_cons_succ]))
              refine Rf.Steps.nil (by kernel_rfl) ?_
              intro w4 hb6
              go_wp2
              go_ret
              exact ⟨rfl, nx hbx hb6⟩
            · cases hq3 : (a 3 == b 3)
              · obtain rfl : m = false := by rw [← M1.out, HM.out, hq0]; rw [hq3]; rfl
                clear HM M2 M3 M4
                go_wp2
                refine Rf.region [0, 1, 2, 3, 4, 5, 6, 7, 8, 9, 10, 11, 12, 13, 14, 15, 16, 17, 18, 19, 20, 21, 22] (by kernel_rfl) (by kernel_rfl) (by kernel_rfl) (fun _ _ d _ _ h => by cases d <;> exact h) ?_
                repeat (first | (refine Rf.Steps.skip (by rfl) (by kernel_rfl) (by rfl) ?_; simp only [Act.put, List.setIfInBounds_toArray, List.set_cons_zero, List.set_cons_succ]) | (refine Rf.Steps.pure (v := ?_) (by rfl) (by kernel_rfl) (by rfl) ?_ ?_; rotate_left; (intro w_ hS_; have hk_ := hK2 w_ hS_; go_simp <;> with_reducible rfl); simp only [Act.put, List.setIfInBounds_toArray, List.set_cons_zero, List.set_cons_succ]) | (refine Rf.Steps.call (v := ?_) (f := ?_) (args := ?_) (by rfl) (by kernel_rfl) (by rfl) ?_ ?_ ?_; rotate_left 3; (intro w_ hS_; have hk_ := hK2 w_ hS_; go_simp <;> first | with_reducible rfl | (constructor <;> with_reducible rfl)); (intro w_ hS_; have hk_ := hK2 w_ hS_; first | (go_at_call 11; refine (meets_is M1 _).mono ?_; first | (rintro e w_ ⟨rfl, rfl⟩; refine ⟨?_, Below.refl _ _⟩; with_reducible rfl) | (rintro e w_ ⟨rfl, hb_⟩; refine ⟨?_, hb_⟩; with_reducible rfl)) | (go_at_call 15; refine (awake_any _ hk_.2.2.2.2).mono ?_; first | (rintro e w_ ⟨rfl, rfl⟩; refine ⟨?_, Below.refl _ _⟩; with_reducible rfl) | (rintro e w_ ⟨rfl, hb_⟩; refine ⟨?_, hb_⟩; with_reducible rfl))); simp only [Act.put, List.setIfInBounds_toArray, List.set_cons_zero, List.set_cons_succ]))
                refine Rf.Steps.nil (by kernel_rfl) ?_
                intro w4 hb6
                go_wp2
                go_ret
                exact ⟨rfl, nx hbx hb6⟩
              · obtain rfl : m = true := by rw [← M1.out, HM.out, hq0]; rw [hq3]; rfl
                clear HM M2 M3 M4
                go_wp2
                refine Rf.region [0, 1, 2, 3, 4, 5, 6, 7, 8, 9, 10, 11, 12, 13, 14, 15, 16, 17, 18, 19, 20, 21, 22] (by kernel_rfl) (by kernel_rfl) (by kernel_rfl) (fun _ _ d _ _ h => by cases d <;> exact h) ?_
                repeat (first | (refine Rf.Steps.skip (by rfl) (by kernel_rfl) (by rfl) ?_; simp only [Act.put, List.setIfInBounds_toArray, List.set_cons_zero, List.set_cons_succ]) | (refine Rf.Steps.pure (v := ?_) (by rfl) (by kernel_rfl) (by rfl) ?_ ?_; rotate_left; (intro w_ hS_; have hk_ := hK2 w_ hS_; go_simp <;> with_reducible rfl); simp only [Act.put, List.setIfInBounds_toArray, List.set_cons_zero, List.set_cons_succ]) | (refine Rf.Steps.call (v := ?_) (f := ?_) (args := ?_) (by rfl) (by kernel_rfl) (by rfl) ?_ ?_ ?_; rotate_left 3; (intro w_ hS_; have hk_ := hK2 w_ hS_; go_simp <;> first | with_reducible rfl | (constructor <;> with_reducible rfl)); (intro w_ hS_; have hk_ := hK2 w_ hS_; first | (go_at_call 11; refine (meets_is M1 _).mono ?_; first | (rintro e w_ ⟨rfl, rfl⟩; refine ⟨?_, Below.refl _ _⟩; with_reducible rfl) | (rintro e w_ ⟨rfl, hb_⟩; refine ⟨?_, hb_⟩; with_reducible rfl)) | (go_at_call 15; refine (awake_any _ hk_.2.2.2.2).mono ?_; first | (rintro e w_ ⟨rfl, rfl⟩; refine ⟨?_, Below.refl _ _⟩; with_reducible rfl) | (rintro e w_ ⟨rfl, hb_⟩; refine ⟨?_, hb_⟩; with_reducible rfl))); simp only [Act.put, List.setIfInBounds_toArray, List.set_cons_zero, List.set_cons_succ]))
                refine Rf.Steps.nil (by kernel_rfl) ?_
                intro w4 hb6
                go_wp2
                go_ret
                exact ⟨rfl, nx hbx hb6⟩
          · obtain rfl : m = true := by rw [← M1.out, HM.out, hq0]; rfl
            clear HM M2 M3 M4
            go_wp2
            refine Rf.region [0, 1, 2, 3, 4, 5, 6, 7, 8, 9, 10, 11, 12, 13, 14, 15, 16, 17, 18, 19, 20, 21, 22] (by kernel_rfl) (by kernel_rfl) (by kernel_rfl) (fun _ _ d _ _ h => by cases d <;> exact h) ?_
            repeat (first | (refine Rf.Steps.skip (by rfl) (by kernel_rfl) (by rfl) ?_; simp only [Act.put, List.setIfInBounds_toArray, List.set_cons_zero, List.set_cons_succ]) | (refine Rf.Steps.pure (v := ?_) (by rfl) (by kernel_rfl) (by rfl) ?_ ?_; rotate_left; (intro w_ hS_; have hk_ := hK2 w_ hS_; go_simp <;> with_reducible rfl); simp only [Act.put, List.setIfInBounds_toArray, List.set_cons_zero, List.set_cons_succ]) | (refine Rf.Steps.call (v := ?_) (f := ?_) (args := ?_) (by rfl) (by kernel_rfl) (by rfl) ?_ ?_ ?_; rotate_left 3; (intro w_ hS_; have hk_ := hK2 w_ hS_; go_simp <;> first | with_reducible rfl | (constructor <;> with_reducible rfl)); (intro w_ hS_; have hk_ := hK2 w_ hS_; first | (go_at_call 11; refine (meets_is M1 _).mono ?_; first | (rintro e w_ ⟨rfl, rfl⟩; refine ⟨?_, Below.refl _ _⟩; with_reducible rfl) | (rintro e w_ ⟨rfl, hb_⟩; refine ⟨?_, hb_⟩; with_reducible rfl)) | (go_at_call 15; refine (awake_any _ hk_.2.2.2.2).mono ?_; first | (rintro e w_ ⟨rfl, rfl⟩; refine ⟨?_, Below.refl _ _⟩; with_reducible rfl) | (rintro e w_ ⟨rfl, hb_⟩; refine ⟨?_, hb_⟩; with_reducible rfl))); simp only [Act.put, List.setIfInBounds_toArray, List.set_cons_zero, List.set_cons_succ]))
            refine Rf.Steps.nil (by kernel_rfl) ?_
            intro w4 hb6
            go_wp2
            go_ret
            exact ⟨rfl, nx hbx hb6⟩
end Go.Proofs.YtinopnmacfkiiaaDoor.Cm
