/- VectorLaws: the greater of two covers what one of them covers. -/
import Derived.Test.YthldjcdojbdclaaVeL
namespace Go.Proofs.Ythldjcdojbdclaa.Ve
open Go.RowKit
set_option linter.unusedVariables false
open Go.Proofs.Ythldjcdojbdclaa.Fx (nx nd)
theorem cell_row {w : World} {b : Nat} {f : Nat → Int} (h : row w b = fc f) (k : Nat) (hk : k < 7) : w.cell? ⟨b, k, none⟩ = some (.int .i64 (f k)) := by
  obtain ⟨t, fr, e⟩ := row_of h (fc_size f)
  rw [cell_of_row w b k _ t fr e, fc_at f k hk]
theorem layL (w : World) (a b c x : Nat → Int) (T : TypeId) {w1 : World}
    (hb : Below (((w.alloc (.cells (fc a) T)).alloc (.cells (fc b) T)).alloc (.cells (fc c) T)).heap.size (((w.alloc (.cells (fc a) T)).alloc (.cells (fc b) T)).alloc (.cells (fc c) T)) w1) :
    ∃ W, W = w1.alloc (.cells (fc x) T) ∧ Below w.heap.size w W ∧ ∀ wr, Below W.heap.size W wr →
      row wr w.heap.size = fc a ∧ row wr (w.heap.size + 1) = fc b ∧ row wr (w.heap.size + 1 + 1) = fc c ∧ row wr w1.heap.size = fc x := by
  have hz : (w1.alloc (.cells (fc x) T)).heap.size = w1.heap.size + 1 := by simp
  refine ⟨_, rfl, nx (nx (below3 _ _ _ _) hb) (below1 _ _), fun wr h => ?_⟩
  obtain ⟨h1, _, h3, _⟩ := bcell (nx (nx hb (below1 w1 (.cells (fc x) T))) h)
  obtain ⟨_, _, h6, _⟩ := bcell h
  refine ⟨?_, ?_, ?_, ?_⟩
  · rw [h3 _ (by simp <;> omega)]; simp [go_sem]
  · rw [h3 _ (by simp)]; simp [go_sem]
  · rw [h3 _ (by simp)]; simp [go_sem]
  · rw [h6 _ (by omega)]; exact row_new _ _ _ _ rfl
/-- Five numbers lie in the last block. -/
theorem lay5 (w : World) (p q : Int) (T : TypeId) : ∃ W, W = (w.alloc (.cells #[.int .i64 1, .int .i64 2, .int .i64 p, .int .i64 q, .int .i64 400] T)).drew ∧ Below w.heap.size w W ∧
    ∀ wr, Below W.heap.size W wr → ∀ j, j < 5 → ∃ n, wr.cell? ⟨w.heap.size, j, none⟩ = some (.int .i64 n) := by
  refine ⟨_, rfl, (below1 _ _).drew, fun wr h j hj => ?_⟩
  have hz : (w.alloc (.cells #[.int .i64 1, .int .i64 2, .int .i64 p, .int .i64 q, .int .i64 400] T)).drew.heap.size = w.heap.size + 1 := by simp [heap_drew]
  obtain ⟨h1, _, _, _⟩ := bcell h
  rw [h1 _ _ (by omega)]
  rw [show ((w.alloc (.cells #[.int .i64 1, .int .i64 2, .int .i64 p, .int .i64 q, .int .i64 400] T)).drew.cell? ⟨w.heap.size, j, none⟩) = (w.alloc (.cells #[.int .i64 1, .int .i64 2, .int .i64 p, .int .i64 q, .int .i64 400] T)).cell? ⟨w.heap.size, j, none⟩ from rfl, World.cell?_alloc_at _ _ _ _ rfl]
  match j, hj with
  | 0, _ => exact ⟨_, rfl⟩
  | 1, _ => exact ⟨_, rfl⟩
  | 2, _ => exact ⟨_, rfl⟩
  | 3, _ => exact ⟨_, rfl⟩
  | 4, _ => exact ⟨_, rfl⟩
/-- A place lies in the last block. -/
theorem layP (w : World) (r s : Int) (T : TypeId) : ∃ W, W = w.alloc (.cells #[.int .i64 r, .int .i64 s] T) ∧ Below w.heap.size w W ∧
    ∀ wr, Below W.heap.size W wr → wr.cell? ⟨w.heap.size, 0, none⟩ = some (.int .i64 r) ∧ wr.cell? ⟨w.heap.size, 1, none⟩ = some (.int .i64 s) := by
  refine ⟨_, rfl, below1 _ _, fun wr h => ?_⟩
  obtain ⟨h1, _, _, _⟩ := bcell h
  refine ⟨?_, ?_⟩
  · rw [h1 _ _ (by simp)]; simp [go_sem]
  · rw [h1 _ _ (by simp)]; simp [go_sem]
set_option maxHeartbeats 3200000 in
theorem walkVectorLaws (a b c : Nat → Int) (w : World) :
    Calls Try.prog 4 #[.agg (fc a), .agg (fc b), .agg (fc c)] w fun e w' => e = .returned (.bool true) ∧ Below w.heap.size w w' := by
  obtain ⟨x, hx⟩ : ∃ x, x = maxV a b := ⟨_, rfl⟩
  have HX := Lib.hid hx
  have HXs := Lib.hid hx.symm
  have e1 : eqV x (maxV b a) = true := by rw [hx, max_comm a b]; exact eqV_refl _
  have e2 : eqV (maxV a a) a = true := by rw [max_self]; exact eqV_refl _
  have e3 : eqV (maxV x c) (maxV a (maxV b c)) = true := by rw [hx, max_assoc]; exact eqV_refl _
  have e4 : undB a x = true := by rw [hx]; exact und_left a b
  have e5 : undB b x = true := by rw [hx]; exact und_right a b
  clear hx
  go_enter Try.func4, Try.ntmps4
  go_wp2_with fail
  refine (max_any a b _).mono ?_
  rintro e w1 ⟨rfl, hb1⟩
  rw [HXs.out]
  obtain ⟨W, hW, hb0, hK⟩ := layL w a b c x 23 hb1
  go_wp2_with fail
  rw [← hW]
  clear hW hb1
  refine Rg.region (by kernel_rfl) (by kernel_rfl) (by kernel_rfl) (fun _ _ d _ _ h => by cases d <;> exact h) _ rfl ?_
  repeat (first | (refine Rg.Seq.skip (by rfl) ?_; simp only [Act.put, List.setIfInBounds_toArray, List.set_cons_zero, List.set_cons_succ]) | (refine Rg.Seq.pure (v := ?_) (by rfl) ?_ ?_; rotate_left; (intro w_ hS_; have hk_ := hK w_ hS_; go_simp <;> with_reducible rfl); simp only [Act.put, List.setIfInBounds_toArray, List.set_cons_zero, List.set_cons_succ]) | (refine Rg.Seq.call (v := ?_) (f := ?_) (args := ?_) (by rfl) ?_ ?_ ?_; rotate_left 3; (intro w_ hS_; have hk_ := hK w_ hS_; go_simp <;> first | with_reducible rfl | (constructor <;> with_reducible rfl)); (intro w_ hS_; first | (go_at_call 8; refine (max_any _ _ _).mono ?_; rintro e w_ ⟨rfl, hb_⟩; refine ⟨?_, nx hS_ hb_⟩; with_reducible rfl) | (go_at_call 14; refine (under_any _ _ _).mono ?_; rintro e w_ ⟨rfl, hb_⟩; refine ⟨?_, nx hS_ hb_⟩; with_reducible rfl)); simp only [Act.put, List.setIfInBounds_toArray, List.set_cons_zero, List.set_cons_succ]))
  intro w2 hb2
  replace hK := fun wr h => hK wr (nx hb2 h)
  replace hb2 := nx hb0 hb2
  clear hb0 e1 e2 e3 e4 e5
  go_wp2_with fail
  go_loopw [50] (fun i wr => ∃ k : Nat, k ≤ 7 ∧ i = .int .i64 k ∧ Below w2.heap.size w2 wr) (fun i _ => 7 - (intOf i).toNat)
  case atStart => exact ⟨0, Nat.zero_le _, rfl, Below.refl _ _⟩
  case round =>
    obtain ⟨k, hk, rfl, hbr⟩ := hrel
    replace hK := fun wr h => hK wr (nx hbr h)
    have hF := hK wr (Below.refl _ _)
    by_cases hlt : k < 7
    · have hlt2 : (k : Int) < 7 := by omega
      have ca := cell_row hF.1 k hlt
      have cb := cell_row hF.2.1 k hlt
      go_wp2
      go_region
      obtain ⟨W5, hW5, hb5, hS⟩ := lay5 wr (a k) (b k) 3
      rw [← hW5]
      clear hW5 ca cb hF
      replace hK := fun wr h => hK wr (nx hb5 h)
      replace hbr := nx hbr hb5
      clear hb5
      go_wp2
      go_loopw [61] (fun i wr => ∃ j : Nat, j ≤ 5 ∧ i = .int .i64 j ∧ Below W5.heap.size W5 wr) (fun i _ => 5 - (intOf i).toNat)
      case atStart => exact ⟨0, Nat.zero_le _, rfl, Below.refl _ _⟩
      case round =>
        obtain ⟨j, hj, rfl, hbs⟩ := hrel
        by_cases hj5 : j < 5
        · obtain ⟨n, hn⟩ := hS _ hbs j hj5
          have hj2 : (j : Int) < 5 := by omega
          replace hK := fun wr h => hK wr (nx hbs h)
          go_wp2
          obtain ⟨W6, hW6, hb6, hP⟩ := layP wr (k : Int) n 25
          rw [← hW6]
          clear hW6
          have hK6 := fun w6 h => And.intro (hK w6 (nx hb6 h)) (hP w6 h)
          clear hK hP
          replace hbs := nx hbs hb6
          clear hb6
          have hm : covB x (k : Int) n = (covB a (k : Int) n || covB b (k : Int) n) := by rw [HX.out]; exact cov_max a b _ _
          cases hc : covB a (k : Int) n
          · rw [hc, Bool.false_or] at hm
            refine Rg.region (by kernel_rfl) (by kernel_rfl) (by kernel_rfl) (fun _ _ d _ _ h => by cases d <;> exact h) _ rfl ?_
            repeat (first | (refine Rg.Seq.skip (by rfl) ?_; simp only [Act.put, List.setIfInBounds_toArray, List.set_cons_zero, List.set_cons_succ]) | (refine Rg.Seq.pure (v := ?_) (by rfl) ?_ ?_; rotate_left; (intro w_ hS_; have hk_ := hK6 w_ hS_; go_simp <;> with_reducible rfl); simp only [Act.put, List.setIfInBounds_toArray, List.set_cons_zero, List.set_cons_succ]) | (refine Rg.Seq.call (v := ?_) (f := ?_) (args := ?_) (by rfl) ?_ ?_ ?_; rotate_left 3; (intro w_ hS_; have hk_ := hK6 w_ hS_; go_simp <;> first | with_reducible rfl | (constructor <;> with_reducible rfl)); (intro w_ hS_; first | (go_at_call 12; refine (covers_any _ _ _ _).mono ?_; rintro e w_ ⟨rfl, hb_⟩; refine ⟨?_, nx hS_ hb_⟩; with_reducible rfl)); simp only [Act.put, List.setIfInBounds_toArray, List.set_cons_zero, List.set_cons_succ]))
            intro w7 hb7
            go_wp2
            go_roundw
            case rel => exact ⟨j + 1, by omega, by go_num, nx hbs hb7⟩
            case measure => simp [intOf]; omega
          · rw [hc, Bool.true_or] at hm
            refine Rg.region (by kernel_rfl) (by kernel_rfl) (by kernel_rfl) (fun _ _ d _ _ h => by cases d <;> exact h) _ rfl ?_
            repeat (first | (refine Rg.Seq.skip (by rfl) ?_; simp only [Act.put, List.setIfInBounds_toArray, List.set_cons_zero, List.set_cons_succ]) | (refine Rg.Seq.pure (v := ?_) (by rfl) ?_ ?_; rotate_left; (intro w_ hS_; have hk_ := hK6 w_ hS_; go_simp <;> with_reducible rfl); simp only [Act.put, List.setIfInBounds_toArray, List.set_cons_zero, List.set_cons_succ]) | (refine Rg.Seq.call (v := ?_) (f := ?_) (args := ?_) (by rfl) ?_ ?_ ?_; rotate_left 3; (intro w_ hS_; have hk_ := hK6 w_ hS_; go_simp <;> first | with_reducible rfl | (constructor <;> with_reducible rfl)); (intro w_ hS_; first | (go_at_call 12; refine (covers_any _ _ _ _).mono ?_; rintro e w_ ⟨rfl, hb_⟩; refine ⟨?_, nx hS_ hb_⟩; with_reducible rfl)); simp only [Act.put, List.setIfInBounds_toArray, List.set_cons_zero, List.set_cons_succ]))
            intro w7 hb7
            go_wp2
            go_roundw
            case rel => exact ⟨j + 1, by omega, by go_num, nx hbs hb7⟩
            case measure => simp [intOf]; omega
        · obtain rfl : j = 5 := by omega
          go_wp2
          go_roundw
          case rel => exact ⟨k + 1, by omega, by go_num, nx hbr hbs⟩
          case measure => simp [intOf]; omega
    · obtain rfl : k = 7 := by omega
      replace hb2 := nx hb2 hbr
      clear hbr
      have HT : Hid (undB a b = true → undB b c = true → undB a c = true) := Lib.hid und_trans
      have HN : Hid (undB a b = true → undB b a = true → eqV a b = true) := Lib.hid und_anti
      cases ab : undB a b
      case' true =>
        cases bc : undB b c
        case' true => have ac := HT.out ab bc
        all_goals cases ba : undB b a
        all_goals try have ee := HN.out ab ba
      all_goals
        repeat (
          go_wp2_with fail
          refine (under_any _ _ _).mono ?_
          rintro e w4 ⟨rfl, hb4⟩
          replace hK := fun wr h => hK wr (nx hb4 h)
          replace hb2 := nx hb2 hb4
          clear hb4
          replace hF := hK _ (Below.refl _ _))
        go_wp2_with fail
        refine (awake_any _).mono ?_
        rintro e w5 ⟨rfl, hb5⟩
        go_wp2
        go_ret
        exact ⟨rfl, nx hb2 hb5⟩
end Go.Proofs.Ythldjcdojbdclaa.Ve
