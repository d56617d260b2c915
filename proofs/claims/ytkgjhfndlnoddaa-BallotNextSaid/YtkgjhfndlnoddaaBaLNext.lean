/- BallotNext: the call. -/
import Derived.IntWalk
import Derived.Test.YtkgjhfndlnoddaaRg
import Derived.Test.YtkgjhfndlnoddaaBaLOrd
namespace Go.Proofs.Ytkgjhfndlnoddaa.Ba
open Go.RowKit
set_option linter.unusedVariables false
open Go.Proofs.Ytkgjhfndlnoddaa.Fx (nx nd)
theorem next_fine {a b p : Int} (h : nextE a b p = 0) : valB a b = true ∧ valB 0 p = true ∧ a ≠ 1073741824 := by
  unfold nextE at h
  by_cases k : valB a b = true ∧ valB 0 p = true
  · rw [if_pos k] at h
    refine ⟨k.1, k.2, fun e => ?_⟩
    rw [if_pos e] at h; exact absurd h (by decide)
  · rw [if_neg k] at h; exact absurd h (by decide)
theorem next_of {a b p : Int} (h : valB a b = true) (h1 : valB 0 p = true) (h2 : a ≠ 1073741824) : nextN a b p = a + 1 ∧ nextR a b p = p ∧ nextE a b p = 0 := by
  have e : nextE a b p = 0 := by unfold nextE; rw [if_pos ⟨h, h1⟩, if_neg h2]
  unfold nextN nextR
  rw [if_pos e, if_pos e]; exact ⟨rfl, rfl, e⟩
set_option maxHeartbeats 1600000 in
theorem nextNo (a b c d p x : Int) (hx : (x == 0) = false) (h : nextN a b p = 0 ∧ nextR a b p = 0 ∧ nextE a b p = x) (w : World) :
    Calls Try.prog 5 #[.agg #[.int .i64 a, .int .i64 b], .agg #[.int .i64 c, .int .i64 d], .int .i64 p] w fun e w' => e = .returned (.bool true) ∧ Below w.heap.size w w' := by
  have e1 := same 0 0
  have hg := guardB
  have H := Lib.hid h
  clear h
  go_enter Try.func5, Try.ntmps5
  go_wp2_with fail
  refine (next_is a b p 0 0 x H.out _).mono ?_
  rintro e w1 ⟨rfl, hb1⟩
  obtain ⟨chb1, fhb1⟩ := bcell hb1
  go_wp2_with fail
  refine (awake_any _).mono ?_
  rintro e w2 ⟨rfl, hb2⟩
  go_wp2
  go_ret
  exact ⟨rfl, nx (nx (nx (below2 w _ _) hb1) (below1 _ _)) hb2⟩
set_option maxHeartbeats 3200000 in
theorem nextYes1 (a b c d p : Int) (hlt : a < c) (hv : valB a b = true) (hp : valB 0 p = true) (hn : a ≠ 1073741824) (w : World) :
    Calls Try.prog 5 #[.agg #[.int .i64 a, .int .i64 b], .agg #[.int .i64 c, .int .i64 d], .int .i64 p] w fun e w' => e = .returned (.bool true) ∧ Below w.heap.size w w' := by
  have hb := valB_iff.1 hv
  have hq := valB_iff.1 hp
  have HX := Lib.hid (next_of hv hp hn)
  have hr0 : 0 ≤ (p + 1) % 7 := Int.emod_nonneg _ (by decide)
  have hr1 : (p + 1) % 7 < 7 := Int.emod_lt_of_pos _ (by decide)
  have hp0 : 0 ≤ p := hq.2.2.1
  have hp1 : p < 7 := hq.2.2.2
  have HY := Lib.hid (next_of hv (p := (p + 1) % 7) (valB_iff.2 ⟨by omega, by omega, hr0, hr1⟩) hn)
  have HV : Hid (valB (a + 1) p = true) := Lib.hid (valB_iff.2 ⟨by omega, by omega, hp0, hp1⟩)
  have HL : Hid (lessB a b (a + 1) p = true) := Lib.hid (lessB_iff.2 (.inl (by omega)))
  have HF : Hid (lessB 0 6 (a + 1) p = true) := Lib.hid (lessB_iff.2 (.inl (by omega)))
  have hne := neqB_is (a + 1) p (a + 1) ((p + 1) % 7) true (by
    have : (p == (p + 1) % 7) = false := by simp; omega
    rw [this]; simp)
  have hg := guardB
  have hbn : 0 ≤ a := hb.1
  have hbm : a < 1073741824 := by omega
  have hd : a < c := hlt
  clear hv hp hn hb hq hlt
  go_enter Try.func5, Try.ntmps5
  go_wp2_with fail
  refine (next_is a b p (a + 1) p 0 HX.out _).mono ?_
  rintro e w1 ⟨rfl, hb1⟩
  obtain ⟨chb1, fhb1⟩ := bcell hb1
  have hz1 : w.heap.size + 1 < w1.heap.size := by have := hb1.size; simp at this; omega
  have hz0 : w.heap.size < w1.heap.size := by omega
  go_wp2_with fail
  refine (next_is a b ((p + 1) % 7) (a + 1) ((p + 1) % 7) 0 HY.out _).mono ?_
  rintro e w2 ⟨rfl, hb2⟩
  go_wp2_with fail
  obtain ⟨W, hW⟩ : ∃ W, W = w2.alloc (.cells #[.int .i64 (a + 1), .int .i64 ((p + 1) % 7)] 23) := ⟨_, rfl⟩
  have h2 := nx (below1 w1 (.cells #[.int .i64 (a + 1), .int .i64 p] 23)) hb2
  have h3 : Below w2.heap.size w2 W := hW ▸ below1 w2 _
  have hK : ∀ wr, Below W.heap.size W wr → Below W.heap.size W wr ∧ wr.cell? ⟨w.heap.size, 0, none⟩ = some (.int .i64 a) ∧ wr.cell? ⟨w.heap.size, 1, none⟩ = some (.int .i64 b) ∧ wr.cell? ⟨w.heap.size + 1, 0, none⟩ = some (.int .i64 c) ∧ wr.cell? ⟨w.heap.size + 1, 1, none⟩ = some (.int .i64 d) ∧ wr.cell? ⟨w1.heap.size, 0, none⟩ = some (.int .i64 (a + 1)) ∧ wr.cell? ⟨w1.heap.size, 1, none⟩ = some (.int .i64 p) ∧ wr.cell? ⟨w2.heap.size, 0, none⟩ = some (.int .i64 (a + 1)) ∧ wr.cell? ⟨w2.heap.size, 1, none⟩ = some (.int .i64 ((p + 1) % 7)) := by
    intro wr h
    have k2 := lies w2 (a + 1) ((p + 1) % 7) 23 (hW ▸ h)
    have k1 := lies w1 (a + 1) p 23 (nx hb2 (nx h3 h))
    have k0 := lay1 w _ c d 23 (nx hb1 (nx h2 (nx h3 h)))
    have k := lies w a b 23 (nx (below1 _ _) (nx hb1 (nx h2 (nx h3 h))))
    exact ⟨h, k.1, k.2, k0.1, k0.2, k1.1, k1.2, k2.1, k2.2⟩
  have hb := nx (nx (nx (below2 w _ _) hb1) h2) h3
  rw [← hW]
  clear hW chb1 fhb1 hb1 hb2 h2 h3 hz1 hz0 HX HY
  refine Rg.region (by kernel_rfl) (by kernel_rfl) (by kernel_rfl) (fun _ _ d _ _ h => by cases d <;> exact h) _ rfl ?_
  repeat (first | (refine Rg.Seq.skip (by rfl) ?_; simp only [Act.put, List.setIfInBounds_toArray, List.set_cons_zero, List.set_cons_succ]) | (refine Rg.Seq.pure (v := ?_) (by rfl) ?_ ?_; rotate_left; (intro w_ hS_; have hk_ := hK w_ hS_; go_simp <;> with_reducible rfl); simp only [Act.put, List.setIfInBounds_toArray, List.set_cons_zero, List.set_cons_succ]) | (refine Rg.Seq.call (v := ?_) (f := ?_) (args := ?_) (by rfl) ?_ ?_ ?_; rotate_left 3; (intro w_ hS_; have hk_ := hK w_ hS_; go_simp <;> first | with_reducible rfl | (constructor <;> with_reducible rfl)); (intro w_ hS_; first | (go_at_call 8; refine (valid_is (a + 1) p true HV.out _).mono ?_; rintro e w_ ⟨rfl, hb_⟩; refine ⟨?_, nx hS_ hb_⟩; with_reducible rfl) | (go_at_call 12; refine (first_any 6 _).mono ?_; rintro e w_ ⟨rfl, hb_⟩; refine ⟨?_, nx hS_ hb_⟩; with_reducible rfl) | (go_at_call 16; refine (awake_any _).mono ?_; rintro e w_ ⟨rfl, hb_⟩; refine ⟨?_, nx hS_ hb_⟩; with_reducible rfl) | (go_at_call 10; (first | with_reducible refine (less_is a b (a + 1) p true HL.out _).mono ?_ | with_reducible refine (less_is 0 6 (a + 1) p true HF.out _).mono ?_); rintro e w_ ⟨rfl, hb_⟩; refine ⟨?_, nx hS_ hb_⟩; with_reducible rfl)); simp only [Act.put, List.setIfInBounds_toArray, List.set_cons_zero, List.set_cons_succ]))
  intro w4 hb4
  go_wp2
  go_ret
  exact ⟨rfl, nx hb hb4⟩
set_option maxHeartbeats 3200000 in
theorem nextYes2 (a b c d p : Int) (hlt : ¬ a < c) (hv : valB a b = true) (hp : valB 0 p = true) (hn : a ≠ 1073741824) (w : World) :
    Calls Try.prog 5 #[.agg #[.int .i64 a, .int .i64 b], .agg #[.int .i64 c, .int .i64 d], .int .i64 p] w fun e w' => e = .returned (.bool true) ∧ Below w.heap.size w w' := by
  have hb := valB_iff.1 hv
  have hq := valB_iff.1 hp
  have HX := Lib.hid (next_of hv hp hn)
  have hr0 : 0 ≤ (p + 1) % 7 := Int.emod_nonneg _ (by decide)
  have hr1 : (p + 1) % 7 < 7 := Int.emod_lt_of_pos _ (by decide)
  have hp0 : 0 ≤ p := hq.2.2.1
  have hp1 : p < 7 := hq.2.2.2
  have HY := Lib.hid (next_of hv (p := (p + 1) % 7) (valB_iff.2 ⟨by omega, by omega, hr0, hr1⟩) hn)
  have HV : Hid (valB (a + 1) p = true) := Lib.hid (valB_iff.2 ⟨by omega, by omega, hp0, hp1⟩)
  have HL : Hid (lessB a b (a + 1) p = true) := Lib.hid (lessB_iff.2 (.inl (by omega)))
  have HF : Hid (lessB 0 6 (a + 1) p = true) := Lib.hid (lessB_iff.2 (.inl (by omega)))
  have HC : Hid (lessB c d (a + 1) p = true) := Lib.hid (lessB_iff.2 (.inl (by omega)))
  have hne := neqB_is (a + 1) p (a + 1) ((p + 1) % 7) true (by
    have : (p == (p + 1) % 7) = false := by simp; omega
    rw [this]; simp)
  have hg := guardB
  have hbn : 0 ≤ a := hb.1
  have hbm : a < 1073741824 := by omega
  have hd : decide (a < c) = false := by simpa using hlt
  clear hv hp hn hb hq hlt
  go_enter Try.func5, Try.ntmps5
  go_wp2_with fail
  refine (next_is a b p (a + 1) p 0 HX.out _).mono ?_
  rintro e w1 ⟨rfl, hb1⟩
  obtain ⟨chb1, fhb1⟩ := bcell hb1
  have hz1 : w.heap.size + 1 < w1.heap.size := by have := hb1.size; simp at this; omega
  have hz0 : w.heap.size < w1.heap.size := by omega
  go_wp2_with fail
  refine (next_is a b ((p + 1) % 7) (a + 1) ((p + 1) % 7) 0 HY.out _).mono ?_
  rintro e w2 ⟨rfl, hb2⟩
  go_wp2_with fail
  obtain ⟨W, hW⟩ : ∃ W, W = w2.alloc (.cells #[.int .i64 (a + 1), .int .i64 ((p + 1) % 7)] 23) := ⟨_, rfl⟩
  have h2 := nx (below1 w1 (.cells #[.int .i64 (a + 1), .int .i64 p] 23)) hb2
  have h3 : Below w2.heap.size w2 W := hW ▸ below1 w2 _
  have hK : ∀ wr, Below W.heap.size W wr → Below W.heap.size W wr ∧ wr.cell? ⟨w.heap.size, 0, none⟩ = some (.int .i64 a) ∧ wr.cell? ⟨w.heap.size, 1, none⟩ = some (.int .i64 b) ∧ wr.cell? ⟨w.heap.size + 1, 0, none⟩ = some (.int .i64 c) ∧ wr.cell? ⟨w.heap.size + 1, 1, none⟩ = some (.int .i64 d) ∧ wr.cell? ⟨w1.heap.size, 0, none⟩ = some (.int .i64 (a + 1)) ∧ wr.cell? ⟨w1.heap.size, 1, none⟩ = some (.int .i64 p) ∧ wr.cell? ⟨w2.heap.size, 0, none⟩ = some (.int .i64 (a + 1)) ∧ wr.cell? ⟨w2.heap.size, 1, none⟩ = some (.int .i64 ((p + 1) % 7)) := by
    intro wr h
    have k2 := lies w2 (a + 1) ((p + 1) % 7) 23 (hW ▸ h)
    have k1 := lies w1 (a + 1) p 23 (nx hb2 (nx h3 h))
    have k0 := lay1 w _ c d 23 (nx hb1 (nx h2 (nx h3 h)))
    have k := lies w a b 23 (nx (below1 _ _) (nx hb1 (nx h2 (nx h3 h))))
    exact ⟨h, k.1, k.2, k0.1, k0.2, k1.1, k1.2, k2.1, k2.2⟩
  have hb := nx (nx (nx (below2 w _ _) hb1) h2) h3
  rw [← hW]
  clear hW chb1 fhb1 hb1 hb2 h2 h3 hz1 hz0 HX HY
  refine Rg.region (by kernel_rfl) (by kernel_rfl) (by kernel_rfl) (fun _ _ d _ _ h => by cases d <;> exact h) _ rfl ?_
  repeat (first | (refine Rg.Seq.skip (by rfl) ?_; simp only [Act.put, List.setIfInBounds_toArray, List.set_cons_zero, List.set_cons_succ]) | (refine Rg.Seq.pure (v := ?_) (by rfl) ?_ ?_; rotate_left; (intro w_ hS_; have hk_ := hK w_ hS_; go_simp <;> with_reducible rfl); simp only [Act.put, List.setIfInBounds_toArray, List.set_cons_zero, List.set_cons_succ]) | (refine Rg.Seq.call (v := ?_) (f := ?_) (args := ?_) (by rfl) ?_ ?_ ?_; rotate_left 3; (intro w_ hS_; have hk_ := hK w_ hS_; go_simp <;> first | with_reducible rfl | (constructor <;> with_reducible rfl)); (intro w_ hS_; first | (go_at_call 8; refine (valid_is (a + 1) p true HV.out _).mono ?_; rintro e w_ ⟨rfl, hb_⟩; refine ⟨?_, nx hS_ hb_⟩; with_reducible rfl) | (go_at_call 12; refine (first_any 6 _).mono ?_; rintro e w_ ⟨rfl, hb_⟩; refine ⟨?_, nx hS_ hb_⟩; with_reducible rfl) | (go_at_call 16; refine (awake_any _).mono ?_; rintro e w_ ⟨rfl, hb_⟩; refine ⟨?_, nx hS_ hb_⟩; with_reducible rfl) | (go_at_call 10; (first | with_reducible refine (less_is a b (a + 1) p true HL.out _).mono ?_ | with_reducible refine (less_is 0 6 (a + 1) p true HF.out _).mono ?_ | with_reducible refine (less_is c d (a + 1) p true HC.out _).mono ?_); rintro e w_ ⟨rfl, hb_⟩; refine ⟨?_, nx hS_ hb_⟩; with_reducible rfl)); simp only [Act.put, List.setIfInBounds_toArray, List.set_cons_zero, List.set_cons_succ]))
  intro w4 hb4
  go_wp2
  go_ret
  exact ⟨rfl, nx hb hb4⟩
theorem walkNext (a b c d p : Int) (w : World) :
    Calls Try.prog 5 #[.agg #[.int .i64 a, .int .i64 b], .agg #[.int .i64 c, .int .i64 d], .int .i64 p] w fun e w' => e = .returned (.bool true) ∧ Below w.heap.size w w' := by
  by_cases h : nextE a b p = 0
  · obtain ⟨hv, hp, hn⟩ := next_fine h
    by_cases hlt : a < c
    · exact nextYes1 a b c d p hlt hv hp hn w
    · exact nextYes2 a b c d p hlt hv hp hn w
  · exact nextNo a b c d p (nextE a b p) (by simpa using h) ⟨by unfold nextN; rw [if_neg h], by unfold nextR; rw [if_neg h], rfl⟩ w
end Go.Proofs.Ytkgjhfndlnoddaa.Ba
