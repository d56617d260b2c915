/- Right of the landed package account. -/
import Derived.Test.YteandjnbcolphaaAgC
namespace Go.Proofs.Yteandjnbcolphaa.Ac
open Go.RowKit
set_option linter.unusedVariables false
open Go.Proofs.Yteandjnbcolphaa.Rw
open Go.Proofs.Yteandjnbcolphaa.Sl
open Go.Proofs.Yteandjnbcolphaa.Mo (may may_any)
theorem may_is {a : Int} {r : Bool} (h : Hid (may a = r)) (w : World) :
    Calls Try.prog 30 #[.int .i64 a] w fun e w' => e = .returned (.bool r) ∧ w = w' := by
  rw [← h.out]; exact may_any a w
set_option maxHeartbeats 4000000 in
theorem right_any (l : List Hd) (v : Value) (w : World) (h : HL l v w) (hm : l.length ≤ 1000000) :
    Calls Try.prog 12 #[v] w fun e w' => e = .returned (.bool (right l)) ∧ Below w.heap.size w w' := by
  rcases h.cases with ⟨rfl, a, c, rfl⟩ | ⟨hne, b, off, c, rfl, hat⟩
  · clear h
    go_enter Try.func12, Try.ntmps12
    go_wp2
    go_loopw [7] (fun i wr => i = .int .i64 0 ∧ Below w.heap.size w wr) (fun i _ => 0)
    case atStart => exact ⟨rfl, Below.refl _ _⟩
    case round =>
      obtain ⟨rfl, hb⟩ := hrel
      go_wp2
      go_ret
      exact ⟨rfl, hb⟩
  · have hbw := hat.1
    have HA := Lib.hid hat
    obtain ⟨n, hn⟩ : ∃ n, n = l.length := ⟨_, rfl⟩
    rw [← hn] at hm ⊢
    have HN := Lib.hid hn
    clear h hat hn hne
    go_enter Try.func12, Try.ntmps12
    go_wp2
    go_loopw [7] (fun i wr => ∃ k : Nat, k ≤ n ∧ i = .int .i64 k ∧ Below w.heap.size w wr ∧ rightTo l k = true) (fun i _ => n - (intOf i).toNat)
    case atStart => exact ⟨0, Nat.zero_le _, rfl, Below.refl _ _, rfl⟩
    case round =>
      obtain ⟨k, hk, rfl, hb, hto⟩ := hrel
      have HT := Lib.hid hto
      clear hto
      by_cases hlt : k < n
      · have hlt2 : (k : Int) < n := by omega
        have hkl : k < l.length := by rw [← HN.out]; exact hlt
        obtain ⟨⟨x, y, z⟩, hx⟩ : ∃ x, l[k] = x := ⟨_, rfl⟩
        have hc := at3 HA.out k hkl
        rw [hx] at hc
        simp only at hc
        have HX := Lib.hid hx
        clear hx
        obtain ⟨q0, q1, q2⟩ := hc
        obtain ⟨c1, f1, r1, p1⟩ := bcell hb
        have hbr : b < wr.heap.size := by have := hb.size; omega
        obtain ⟨V, hV⟩ : ∃ V, V = wr.alloc (.cells #[.int .i64 x, .int .i64 y, .int .i64 z] 50) := ⟨_, rfl⟩
        have hbV : Below wr.heap.size wr V := hV ▸ below1 wr _
        have hzV : wr.heap.size < V.heap.size := by rw [hV]; simp
        have hF : ∀ u, Below V.heap.size V u → u.cell? ⟨wr.heap.size, 0, none⟩ = some (.int .i64 x) ∧ u.cell? ⟨wr.heap.size, 1, none⟩ = some (.int .i64 y) ∧ u.cell? ⟨wr.heap.size, 2, none⟩ = some (.int .i64 z) := fun u hu => by
          refine ⟨?_, ?_, ?_⟩
          · rw [hu.cell (p := ⟨wr.heap.size, 0, none⟩) hzV, hV]; simp [go_sem]
          · rw [hu.cell (p := ⟨wr.heap.size, 1, none⟩) hzV, hV]; simp [go_sem]
          · rw [hu.cell (p := ⟨wr.heap.size, 2, none⟩) hzV, hV]; simp [go_sem]
        have hbx := nx hb hbV
        have HV := Lib.hid hV
        clear hV
        cases hp : pmay (x, y)
        · have HP := Lib.hid hp
          have HR : Hid (right l = false) := Lib.hid (right_no k hkl (by unfold okAt; rw [getD_at hkl, HX.out]; unfold good; rw [show key (x, y, z) = (x, y) from rfl, hp]; rfl))
          clear hp
          go_wp2_with fail
          rw [← HV.out]
          refine (purse_is HP _).mono ?_
          rintro e w1 ⟨rfl, hb1⟩
          go_wp2
          go_ret
          exact ⟨ret_bool HR.out.symm, nx hbx hb1⟩
        · have HP := Lib.hid hp
          by_cases hz1 : z < 1
          · have HR : Hid (right l = false) := Lib.hid (right_no k hkl (by unfold okAt; rw [getD_at hkl, HX.out, good_low hz1]; rfl))
            have hd : decide (z < 1) = true := by simpa using hz1
            clear hz1 hp
            go_wp2_with fail
            rw [← HV.out]
            refine (purse_is HP _).mono ?_
            rintro e w1 ⟨rfl, hb1⟩
            obtain ⟨e0, e1, e2⟩ := hF w1 hb1
            go_wp2
            go_ret
            exact ⟨ret_bool HR.out.symm, nx hbx hb1⟩
          · have hd : decide (z < 1) = false := by simpa using hz1
            cases hmz : may z
            · have HM := Lib.hid hmz
              have HR : Hid (right l = false) := Lib.hid (right_no k hkl (by unfold okAt; rw [getD_at hkl, HX.out]; unfold good; rw [show amt (x, y, z) = z from rfl, hmz]; simp))
              clear hz1 hp hmz
              go_wp2_with fail
              rw [← HV.out]
              refine (purse_is HP _).mono ?_
              rintro e w1 ⟨rfl, hb1⟩
              obtain ⟨e0, e1, e2⟩ := hF w1 hb1
              go_wp2_with fail
              refine (may_is HM _).mono ?_
              rintro e w' ⟨rfl, rfl⟩
              go_wp2
              go_ret
              exact ⟨ret_bool HR.out.symm, nx hbx hb1⟩
            · have HM := Lib.hid hmz
              have hg : good (x, y, z) = true := by unfold good; rw [show key (x, y, z) = (x, y) from rfl, show amt (x, y, z) = z from rfl, hp, hmz]; simp; omega
              have HG := Lib.hid hg
              clear hz1 hg hp hmz
              cases k with
              | zero =>
                simp only [Nat.zero_mul, Nat.add_zero] at q0 q1 q2
                have HS : Hid (rightTo l 1 = true) := Lib.hid (by rw [rightTo_succ, HT.out, okAt_0 hkl, HX.out, HG.out]; rfl)
                go_wp2_with fail
                rw [← HV.out]
                refine (purse_is HP _).mono ?_
                rintro e w1 ⟨rfl, hb1⟩
                obtain ⟨e0, e1, e2⟩ := hF w1 hb1
                go_wp2_with fail
                refine (may_is HM _).mono ?_
                rintro e w' ⟨rfl, rfl⟩
                go_wp2
                have hF1 : ∀ u, Below w1.heap.size w1 u → u.cell? ⟨wr.heap.size, 0, none⟩ = some (.int .i64 x) ∧ u.cell? ⟨wr.heap.size, 1, none⟩ = some (.int .i64 y) ∧ u.cell? ⟨wr.heap.size, 2, none⟩ = some (.int .i64 z) := fun u hu => hF u (nx hb1 hu)
                refine Rf.region [0, 1, 2, 3, 4, 5, 6, 7, 8, 9, 10, 11, 12, 13] (by kernel_rfl) (by kernel_rfl) (by kernel_rfl) (fun _ _ d _ _ h => by cases d <;> exact h) ?_
                repeat (first | (refine Rf.Steps.skip (by rfl) (by kernel_rfl) (by rfl) ?_; simp only [Act.put, List.setIfInBounds_toArray, List.set_cons_zero, List.set_cons_succ]) | (refine Rf.Steps.pure (v := ?_) (by rfl) (by kernel_rfl) (by rfl) ?_ ?_; rotate_left; (intro w_ hS_; have hk_ := hF1 w_ hS_; go_simp <;> with_reducible rfl); simp only [Act.put, List.setIfInBounds_toArray, List.set_cons_zero, List.set_cons_succ]))
                refine Rf.Steps.nil (by kernel_rfl) ?_
                intro w4 hb6
                go_wp2
                go_roundw
                case rel => exact ⟨1, by omega, by go_num, nx hbx (nx hb1 hb6), HS.out⟩
                case measure => simp [intOf]; omega
              | succ j =>
                have hjl : j < l.length := by omega
                obtain ⟨⟨x', y', z'⟩, hx'⟩ : ∃ x, l[j] = x := ⟨_, rfl⟩
                have hc' := at3 HA.out j hjl
                rw [hx'] at hc'
                simp only at hc'
                have HX' := Lib.hid hx'
                clear hx'
                obtain ⟨s0, s1, s2⟩ := hc'
                have hF2 : ∀ u, Below V.heap.size V u → u.cell? ⟨wr.heap.size, 0, none⟩ = some (.int .i64 x) ∧ u.cell? ⟨wr.heap.size, 1, none⟩ = some (.int .i64 y) ∧ u.cell? ⟨wr.heap.size, 2, none⟩ = some (.int .i64 z) ∧ u.cell? ⟨b, off + j * 3, none⟩ = some (.int .i64 x') ∧ u.cell? ⟨b, off + j * 3 + 1, none⟩ = some (.int .i64 y') := fun u hu => by
                  have hbu := nx hbx hu
                  obtain ⟨e0, e1, e2⟩ := hF u hu
                  exact ⟨e0, e1, e2, by rw [hbu.cell (p := ⟨b, off + j * 3, none⟩) hbw]; exact s0, by rw [hbu.cell (p := ⟨b, off + j * 3 + 1, none⟩) hbw]; exact s1⟩
                have hj0 : (0 : Int) ≤ j := by omega
                have hjn : (j : Int) < n := by omega
                have d1 : decide ((0 : Int) < (j : Int) + 1) = true := by rw [decide_eq_true_eq]; omega
                have d2 : (j : Int) + 1 - 1 = j := by omega
                have d3 : IntKind.i64.wrap (j : Int) = j := IntWalk.i64_in _ (by omega)
                obtain ⟨g, hg⟩ : ∃ g, cmpP (x', y') (x, y) = g := ⟨_, rfl⟩
                have hpl := cmpP_lt (x', y') (x, y)
                rw [hg] at hpl
                have HC := Lib.hid hg
                clear s0 s1 s2 hg
                cases hl : pless (x', y') (x, y)
                · have HR : Hid (right l = false) := Lib.hid (right_no (j + 1) hkl (by rw [okAt_succ hkl, HX.out, HX'.out, HG.out]; exact hl))
                  rw [hl] at hpl
                  have hd2 : decide (g ≥ 0) = true := by simp at hpl ⊢; omega
                  have hd3 : decide (0 ≤ g) = true := by simp at hpl ⊢; omega
                  clear hl hpl
                  go_wp2_with fail
                  rw [← HV.out]
                  refine (purse_is HP _).mono ?_
                  rintro e w1 ⟨rfl, hb1⟩
                  obtain ⟨e0, e1, e2⟩ := hF w1 hb1
                  clear hF
                  go_wp2_with fail
                  refine (may_is HM _).mono ?_
                  rintro e w' ⟨rfl, rfl⟩
                  go_wp2
                  have hF1 := fun u (hu : Below w1.heap.size w1 u) => hF2 u (nx hb1 hu)
                  refine Rf.region [0, 1, 2, 3, 4, 5, 6, 7, 8, 9, 10, 11, 12, 13] (by kernel_rfl) (by kernel_rfl) (by kernel_rfl) (fun _ _ d _ _ h => by cases d <;> exact h) ?_
                  repeat (first | (refine Rf.Steps.skip (by rfl) (by kernel_rfl) (by rfl) ?_; simp only [Act.put, List.setIfInBounds_toArray, List.set_cons_zero, List.set_cons_succ]) | (refine Rf.Steps.pure (v := ?_) (by rfl) (by kernel_rfl) (by rfl) ?_ ?_; rotate_left; (intro w_ hS_; have hk_ := hF1 w_ hS_; go_simp <;> with_reducible rfl); simp only [Act.put, List.setIfInBounds_toArray, List.set_cons_zero, List.set_cons_succ]) | (refine Rf.Steps.call (v := ?_) (f := ?_) (args := ?_) (by rfl) (by kernel_rfl) (by rfl) ?_ ?_ ?_; rotate_left 3; (intro w_ hS_; have hk_ := hF1 w_ hS_; go_simp <;> first | with_reducible rfl | (constructor <;> with_reducible rfl)); (intro w_ hS_; have hk_ := hF1 w_ hS_; first | (go_at_call 31; refine (purses_is HC _).mono ?_; first | (rintro e w_ ⟨rfl, rfl⟩; refine ⟨?_, Below.refl _ _⟩; with_reducible rfl) | (rintro e w_ ⟨rfl, hb_⟩; refine ⟨?_, hb_⟩; with_reducible rfl))); simp only [Act.put, List.setIfInBounds_toArray, List.set_cons_zero, List.set_cons_succ]))
                  refine Rf.Steps.nil (by kernel_rfl) ?_
                  intro w4 hb6
                  go_wp2
                  go_ret
                  exact ⟨ret_bool HR.out.symm, nx hbx (nx hb1 hb6)⟩
                · have HS : Hid (rightTo l (j + 1 + 1) = true) := Lib.hid (by rw [rightTo_succ, HT.out, okAt_succ hkl, HX.out, HX'.out, HG.out]; exact hl)
                  rw [hl] at hpl
                  have hd2 : decide (g ≥ 0) = false := by simp at hpl ⊢; omega
                  have hd3 : decide (0 ≤ g) = false := by simp at hpl ⊢; omega
                  clear hl hpl
                  go_wp2_with fail
                  rw [← HV.out]
                  refine (purse_is HP _).mono ?_
                  rintro e w1 ⟨rfl, hb1⟩
                  obtain ⟨e0, e1, e2⟩ := hF w1 hb1
                  clear hF
                  go_wp2_with fail
                  refine (may_is HM _).mono ?_
                  rintro e w' ⟨rfl, rfl⟩
                  go_wp2
                  have hF1 := fun u (hu : Below w1.heap.size w1 u) => hF2 u (nx hb1 hu)
                  refine Rf.region [0, 1, 2, 3, 4, 5, 6, 7, 8, 9, 10, 11, 12, 13] (by kernel_rfl) (by kernel_rfl) (by kernel_rfl) (fun _ _ d _ _ h => by cases d <;> exact h) ?_
                  repeat (first | (refine Rf.Steps.skip (by rfl) (by kernel_rfl) (by rfl) ?_; simp only [Act.put, List.setIfInBounds_toArray, List.set_cons_zero, List.set_cons_succ]) | (refine Rf.Steps.pure (v := ?_) (by rfl) (by kernel_rfl) (by rfl) ?_ ?_; rotate_left; (intro w_ hS_; have hk_ := hF1 w_ hS_; go_simp <;> with_reducible rfl); simp only [Act.put, List.setIfInBounds_toArray, List.set_cons_zero, List.set_cons_succ]) | (refine Rf.Steps.call (v := ?_) (f := ?_) (args := ?_) (by rfl) (by kernel_rfl) (by rfl) ?_ ?_ ?_; rotate_left 3; (intro w_ hS_; have hk_ := hF1 w_ hS_; go_simp <;> first | with_reducible rfl | (constructor <;> with_reducible rfl)); (intro w_ hS_; have hk_ := hF1 w_ hS_; first | (go_at_call 31; refine (purses_is HC _).mono ?_; first | (rintro e w_ ⟨rfl, rfl⟩; refine ⟨?_, Below.refl _ _⟩; with_reducible rfl) | (rintro e w_ ⟨rfl, hb_⟩; refine ⟨?_, hb_⟩; with_reducible rfl))); simp only [Act.put, List.setIfInBounds_toArray, List.set_cons_zero, List.set_cons_succ]))
                  refine Rf.Steps.nil (by kernel_rfl) ?_
                  intro w4 hb6
                  go_wp2
                  go_roundw
                  case rel => exact ⟨j + 1 + 1, by omega, by go_num, nx hbx (nx hb1 hb6), HS.out⟩
                  case measure => simp [intOf]; omega
      · obtain rfl : k = n := by omega
        have HR : Hid (right l = true) := Lib.hid (by unfold right; rw [← HN.out]; exact HT.out)
        go_wp2
        go_ret
        exact ⟨ret_bool HR.out.symm, hb⟩
end Go.Proofs.Yteandjnbcolphaa.Ac
