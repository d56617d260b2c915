/- The document's own: Right. -/
import Derived.Test.YtigoemecphilkaaSfA
import Derived.Test.YtigoemecphilkaaRg
namespace Go.Proofs.Ytigoemecphilkaa.Se
open Go.RowKit
set_option linter.unusedVariables false
open Go.Proofs.Ytigoemecphilkaa.Rw
open Go.Proofs.Ytigoemecphilkaa.Da
theorem getD_at {l : List Sn} {k : Nat} (h : k < l.length) : l.getD k z7 = l[k] := by simp [List.getD, h]
theorem okAt_0 {l : List Sn} (h : 0 < l.length) : okAt l 0 = okS l[0] := by unfold okAt; rw [getD_at h]; simp
theorem okAt_succ {l : List Sn} {j : Nat} (h : j + 1 < l.length) : okAt l (j + 1) = (okS l[j + 1] && decide ((l[j]'(by omega)).1 < l[j + 1].1)) := by
  unfold okAt; rw [getD_at h, Nat.add_sub_cancel, getD_at (show j < l.length by omega)]; simp
theorem okS_cases (s1 s2 s3 s4 s5 s6 s7 : Int) :
    (okS (s1, s2, s3, s4, s5, s6, s7) = false ∧ ((decide (s1 < 0) = true) ∨ (decide (s1 < 0) = false ∧ decide (64 ≤ s1) = true) ∨ (decide (s1 < 0) = false ∧ decide (64 ≤ s1) = false ∧ decide (s2 < 1) = true) ∨ (decide (s1 < 0) = false ∧ decide (64 ≤ s1) = false ∧ decide (s2 < 1) = false ∧ decide (1125899906842624 < s2) = true)
      ∨ (decide (s1 < 0) = false ∧ decide (64 ≤ s1) = false ∧ decide (s2 < 1) = false ∧ decide (1125899906842624 < s2) = false ∧ (s3 != s1) = true) ∨ (decide (s1 < 0) = false ∧ decide (64 ≤ s1) = false ∧ decide (s2 < 1) = false ∧ decide (1125899906842624 < s2) = false ∧ (s3 != s1) = false ∧ (s4 != s2) = true)))
    ∨ (okS (s1, s2, s3, s4, s5, s6, s7) = true ∧ decide (s1 < 0) = false ∧ decide (64 ≤ s1) = false ∧ decide (s2 < 1) = false ∧ decide (1125899906842624 < s2) = false ∧ (s3 != s1) = false ∧ (s4 != s2) = false) := by
  simp only [okS, decide_eq_true_eq, decide_eq_false_iff_not, bne_iff_ne, bne_eq_false_iff_eq, ne_eq]
  omega
set_option maxHeartbeats 4000000 in
theorem rRight_any (B : Bs) (l : List Sn) (v : Value) (w : World) (h : NL B l v w) (hm : l.length ≤ 1000000) :
    Calls Try.prog 13 #[v] w fun e w' => e = .returned (.bool (right l)) ∧ Below w.heap.size w w' := by
  obtain ⟨a, cp, rfl, hel⟩ := h
  obtain ⟨n, hn⟩ : ∃ n, n = l.length := ⟨_, rfl⟩
  obtain ⟨r, hr⟩ : ∃ r, right l = r := ⟨_, rfl⟩
  rw [← hn] at hm ⊢
  rw [hr]
  have HN := Lib.hid hn
  have HR := Lib.hid hr
  have HE := Lib.hid hel
  clear hn hr hel
  go_enter Try.func13, Try.ntmps13
  go_wp2
  go_loopw [7] (fun i wr => ∃ k : Nat, k ≤ n ∧ i = .int .i64 k ∧ Below w.heap.size w wr ∧ rightTo l k = true) (fun i _ => n - (intOf i).toNat)
  case atStart => exact ⟨0, Nat.zero_le _, rfl, Below.refl _ _, rfl⟩
  case round =>
    obtain ⟨k, hk, rfl, hb, hto⟩ := hrel
    have HT := Lib.hid hto
    clear hto
    by_cases hlt : k < n
    · have hlt2 : (k : Int) < n := by omega
      have hkl : k < l.length := by rw [← HN.out]; exact hlt
      rcases HE.out with ⟨e, _⟩ | ⟨b, off, rfl, hat⟩
      · rw [e] at hkl; cases hkl
      · have hat3 := Lies.keep eS 42 hat (Keeps.of_below hb)
        have hc := at7 hat3 k hkl
        have hb3 := hat3.1
        obtain ⟨⟨s1, s2, s3, s4, s5, s6, s7⟩, hs⟩ : ∃ s, l[k] = s := ⟨_, rfl⟩
        have HS := Lib.hid hs
        rw [hs] at hc
        simp only at hc
        obtain ⟨c0, c1, c2, c3, c4, c5, c6⟩ := hc
        go_wp2
        obtain ⟨V, hV⟩ : ∃ V, V = wr.alloc (.cells #[.int .i64 s1, .int .i64 s2, .int .i64 s3, .int .i64 s4, .int .i64 s5, .int .i64 s6, .int .i64 s7] 42) := ⟨_, rfl⟩
        have hbV : Below wr.heap.size wr V := hV ▸ below1 wr _
        have hzV : wr.heap.size < V.heap.size := by rw [hV]; simp
        have hrow : row V wr.heap.size = #[.int .i64 s1, .int .i64 s2, .int .i64 s3, .int .i64 s4, .int .i64 s5, .int .i64 s6, .int .i64 s7] := by rw [hV]; simp [go_sem]
        have hF : ∀ u, Below V.heap.size V u → u.cell? ⟨wr.heap.size, 0, none⟩ = some (.int .i64 s1) ∧ u.cell? ⟨wr.heap.size, 1, none⟩ = some (.int .i64 s2) ∧ u.cell? ⟨wr.heap.size, 2, none⟩ = some (.int .i64 s3) ∧ u.cell? ⟨wr.heap.size, 3, none⟩ = some (.int .i64 s4) := fun u hu => by
          have hr : row u wr.heap.size = row V wr.heap.size := (bcell hu).2.2.1 _ hzV
          have hs : (row u wr.heap.size).size = 6 + 1 := by rw [hr, hrow]; rfl
          exact ⟨by rw [cell_row _ _ _ hs, hr, hrow]; rfl, by rw [cell_row _ _ _ hs, hr, hrow]; rfl, by rw [cell_row _ _ _ hs, hr, hrow]; rfl, by rw [cell_row _ _ _ hs, hr, hrow]; rfl⟩
        have hbx := nx hb hbV
        rw [← hV]
        clear hV hrow hs c0 c1 c2 c3 c4 c5 c6 hbV
        rcases okS_cases s1 s2 s3 s4 s5 s6 s7 with ⟨ho, hcs⟩ | ⟨ho, d1, d2, d3, d4, d5, d6⟩
        · have HZ : Hid (r = false) := Lib.hid (by
            rw [← HR.out]
            refine right_no k hkl ?_
            unfold okAt; rw [getD_at hkl, HS.out, ho]; rfl)
          clear ho hat hat3
          rcases hcs with d1 | ⟨d1, d2⟩ | ⟨d1, d2, d3⟩ | ⟨d1, d2, d3, d4⟩ | ⟨d1, d2, d3, d4, d5⟩ | ⟨d1, d2, d3, d4, d5, d6⟩
          all_goals
            refine Rg.region (by kernel_rfl) (by kernel_rfl) (by kernel_rfl) (fun _ _ d _ _ h => by cases d <;> exact h) _ rfl ?_
            repeat (first | (refine Rg.Seq.skip (by rfl) ?_; simp only [Act.put, List.setIfInBounds_toArray, List.set_cons_zero, List.set_cons_succ]) | (refine Rg.Seq.pure (v := ?_) (by rfl) ?_ ?_; rotate_left; (intro w_ hS_; have hk_ := hF w_ hS_; go_simp <;> with_reducible rfl); simp only [Act.put, List.setIfInBounds_toArray, List.set_cons_zero, List.set_cons_succ]))
            intro w4 hb6
            go_wp2
            go_ret
            exact ⟨ret_bool HZ.out.symm, nx hbx hb6⟩
        · have HO := Lib.hid ho
          clear ho
          cases k with
          | zero =>
            have HZ : Hid (rightTo l 1 = true) := Lib.hid (by rw [rightTo_succ, HT.out, okAt_0 hkl, HS.out, HO.out]; rfl)
            clear hat hat3
            refine Rg.region (by kernel_rfl) (by kernel_rfl) (by kernel_rfl) (fun _ _ d _ _ h => by cases d <;> exact h) _ rfl ?_
            repeat (first | (refine Rg.Seq.skip (by rfl) ?_; simp only [Act.put, List.setIfInBounds_toArray, List.set_cons_zero, List.set_cons_succ]) | (refine Rg.Seq.pure (v := ?_) (by rfl) ?_ ?_; rotate_left; (intro w_ hS_; have hk_ := hF w_ hS_; go_simp <;> with_reducible rfl); simp only [Act.put, List.setIfInBounds_toArray, List.set_cons_zero, List.set_cons_succ]))
            intro w4 hb6
            go_wp2
            go_roundw
            case rel => exact ⟨1, by omega, by go_num, nx hbx hb6, HZ.out⟩
            case measure => simp [intOf]; omega
          | succ j =>
            have hjl : j < l.length := by omega
            obtain ⟨p, hp⟩ : ∃ p, l[j].1 = p := ⟨_, rfl⟩
            have HP := Lib.hid hp
            have hF2 : ∀ u, Below V.heap.size V u → u.cell? ⟨wr.heap.size, 0, none⟩ = some (.int .i64 s1) ∧ u.cell? ⟨wr.heap.size, 1, none⟩ = some (.int .i64 s2) ∧ u.cell? ⟨wr.heap.size, 2, none⟩ = some (.int .i64 s3) ∧ u.cell? ⟨wr.heap.size, 3, none⟩ = some (.int .i64 s4) ∧ u.cell? ⟨b, off + j * 7, none⟩ = some (.int .i64 p) := fun u hu => by
              obtain ⟨e0, e1, e2, e3⟩ := hF u hu
              exact ⟨e0, e1, e2, e3, by rw [← hp]; exact (at7 (Lies.keep eS 42 hat (Keeps.of_below (nx hbx hu))) j hjl).1⟩
            have hj0 : (0 : Int) ≤ j := by omega
            have hjn : (j : Int) < n := by omega
            have d7 : decide ((0 : Int) < (j : Int) + 1) = true := by rw [decide_eq_true_eq]; omega
            have d8 : (j : Int) + 1 - 1 = j := by omega
            have d9 : IntKind.i64.wrap (j : Int) = j := IntWalk.i64_in _ (by omega)
            clear hF hat hat3 hp
            by_cases hl : s1 ≤ p
            · have d10 : decide (s1 ≤ p) = true := decide_eq_true hl
              have HZ : Hid (r = false) := Lib.hid (by
                rw [← HR.out]
                refine right_no (j + 1) hkl ?_
                rw [okAt_succ hkl, HS.out, HO.out, HP.out, Bool.true_and]
                exact decide_eq_false (by show ¬ p < s1; omega))
              clear hl
              refine Rg.region (by kernel_rfl) (by kernel_rfl) (by kernel_rfl) (fun _ _ d _ _ h => by cases d <;> exact h) _ rfl ?_
              repeat (first | (refine Rg.Seq.skip (by rfl) ?_; simp only [Act.put, List.setIfInBounds_toArray, List.set_cons_zero, List.set_cons_succ]) | (refine Rg.Seq.pure (v := ?_) (by rfl) ?_ ?_; rotate_left; (intro w_ hS_; have hk_ := hF2 w_ hS_; go_simp <;> with_reducible rfl); simp only [Act.put, List.setIfInBounds_toArray, List.set_cons_zero, List.set_cons_succ]))
              intro w4 hb6
              go_wp2
              go_ret
              exact ⟨ret_bool HZ.out.symm, nx hbx hb6⟩
            · have d10 : decide (s1 ≤ p) = false := decide_eq_false hl
              have HZ : Hid (rightTo l (j + 1 + 1) = true) := Lib.hid (by
                rw [rightTo_succ, HT.out, okAt_succ hkl, HS.out, HO.out, HP.out, Bool.true_and, Bool.true_and]
                exact decide_eq_true (by show p < s1; omega))
              clear hl
              refine Rg.region (by kernel_rfl) (by kernel_rfl) (by kernel_rfl) (fun _ _ d _ _ h => by cases d <;> exact h) _ rfl ?_
              repeat (first | (refine Rg.Seq.skip (by rfl) ?_; simp only [Act.put, List.setIfInBounds_toArray, List.set_cons_zero, List.set_cons_succ]) | (refine Rg.Seq.pure (v := ?_) (by rfl) ?_ ?_; rotate_left; (intro w_ hS_; have hk_ := hF2 w_ hS_; go_simp <;> with_reducible rfl); simp only [Act.put, List.setIfInBounds_toArray, List.set_cons_zero, List.set_cons_succ]))
              intro w4 hb6
              go_wp2
              go_roundw
              case rel => exact ⟨j + 1 + 1, by omega, by go_num, nx hbx hb6, HZ.out⟩
              case measure => simp [intOf]; omega
    · obtain rfl : k = n := by omega
      have HZ : Hid (r = true) := Lib.hid (by rw [← HR.out]; unfold right; rw [← HN.out]; exact HT.out)
      go_wp2
      go_ret
      exact ⟨ret_bool HZ.out.symm, hb⟩
end Go.Proofs.Ytigoemecphilkaa.Se
