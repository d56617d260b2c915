/- AccountBack: the call. -/
import Derived.Test.YteandjnbcolphaaAcLC
namespace Go.Proofs.Yteandjnbcolphaa.Ac
open Go.RowKit
set_option linter.unusedVariables false
open Go.Proofs.Yteandjnbcolphaa.Rw
open Go.Proofs.Yteandjnbcolphaa.Sl
open Go.Proofs.Yteandjnbcolphaa.Mo (may may_iff addS addE subS subE add2 sub2)
theorem add_ok {a b : Int} (h : addE a b = 0) : addS a b = a + b ∧ 0 ≤ a ∧ 0 ≤ b ∧ a + b ≤ 1125899906842624 := by
  unfold addE at h
  unfold addS
  unfold add2 at h ⊢
  by_cases c : may a = true ∧ may b = true
  · rw [if_pos c] at h ⊢
    have h1 := may_iff.1 c.1
    have h2 := may_iff.1 c.2
    by_cases d : 1125899906842624 - a < b
    · rw [if_pos d] at h; exact absurd h (by decide)
    · rw [if_neg d]; exact ⟨rfl, h1.1, h2.1, by omega⟩
  · rw [if_neg c] at h; exact absurd h (by decide)
theorem sub_ok {a b : Int} (ha : 0 ≤ b) (hb : b ≤ a) (hm : a ≤ 1125899906842624) : subE a b = 0 ∧ subS a b = a - b := by
  have h1 : may a = true := may_iff.2 ⟨by omega, hm⟩
  have h2 : may b = true := may_iff.2 ⟨ha, by omega⟩
  unfold subE subS sub2
  rw [if_pos ⟨h1, h2⟩, if_neg (by omega)]
  exact ⟨rfl, rfl⟩
theorem give_ok {l : List Hd} {p : Pu} {n : Int} (h : giveE l p n = 0) : Right l ∧ pmay p = true ∧ 0 ≤ n ∧ 0 ≤ get l p ∧ get l p + n ≤ 1125899906842624 ∧ giveL l p n = set l p (get l p + n) := by
  have h' := h
  unfold giveE at h
  by_cases c : (right l && pmay p && may n) = true
  · rw [if_pos c] at h
    simp only [Bool.and_eq_true] at c
    have k := add_ok h
    have hr := right_iff.1 c.1.1
    refine ⟨hr, c.1.2, (may_iff.1 c.2).1, k.2.1, k.2.2.2, ?_⟩
    unfold giveL; rw [h', if_pos rfl, k.1]
  · rw [if_neg c] at h; exact absurd h (by decide)
theorem back_ok {l : List Hd} {p : Pu} {n : Int} (h : giveE l p n = 0) : Right (giveL l p n) ∧ (∀ q, get (giveL l p n) q = if q = p then get l p + n else get l q) ∧ takeE (giveL l p n) p n = 0 ∧ takeL (giveL l p n) p n = l := by
  obtain ⟨hr, hp, hn, hg, hs, e⟩ := give_ok h
  obtain ⟨r1, g1⟩ := right_set hr hp (show 0 ≤ get l p + n by omega) hs
  rw [e]
  have gp : get (set l p (get l p + n)) p = get l p + n := by rw [g1, if_pos rfl]
  have hE : takeE (set l p (get l p + n)) p n = 0 := by
    unfold takeE
    rw [right_iff.2 r1, hp, may_iff.2 ⟨hn, by omega⟩, if_pos (by rfl), gp]
    exact (sub_ok hn (by omega) hs).1
  refine ⟨r1, g1, hE, ?_⟩
  unfold takeL
  rw [hE, if_pos rfl, gp, (sub_ok hn (by omega) hs).2]
  have e2 : get l p + n - n = get l p := by omega
  rw [e2]
  obtain ⟨r2, g2⟩ := right_set r1 hp hg (show get l p ≤ 1125899906842624 by omega)
  refine right_ext r2 hr fun q => ?_
  rw [g2, g1]
  by_cases c : q = p
  · rw [if_pos c, c]
  · rw [if_neg c, if_neg c]
set_option maxHeartbeats 8000000 in
theorem walkBack (l : List Hd) (v : Value) (p q n : Int) (w : World) (h : HL l v w) (hg : ∀ x ∈ l, wfH x) (wn : (Lit.int .i64 n).wf = true) :
    Calls Try.prog 5 #[v, .agg #[.int .i64 p, .int .i64 q], .int .i64 n] w fun e w' => e = .returned (.bool true) ∧ Below w.heap.size w w' := by
  clear wn hg
  have HH := Lib.hid h
  obtain ⟨a, c, rfl, _⟩ := h
  by_cases hl : 600 < l.length
  · have hd : decide ((600 : Int) < l.length) = true := by rw [decide_eq_true_eq]; omega
    go_enter Try.func5, Try.ntmps5
    go_wp2_with fail
    refine (awake_any _).mono ?_
    rintro e w1 ⟨rfl, hb1⟩
    go_wp2
    go_ret
    exact ⟨rfl, nx (below1 _ _) hb1⟩
  · have hd : decide ((600 : Int) < l.length) = false := by rw [decide_eq_false_iff_not]; omega
    have HM := Lib.hid (show l.length ≤ 1000000 by omega)
    have gl := giveL_len l (p, q) n
    have HG1 := Lib.hid (show (giveL l (p, q) n).length ≤ 1000000 by omega)
    obtain ⟨nl, hnl⟩ : ∃ x, x = l.length := ⟨_, rfl⟩
    obtain ⟨v, hv⟩ : ∃ v, v = Value.slice a l.length c := ⟨_, rfl⟩
    rw [← hv] at HH
    clear gl
    cases hr : right l
    · have D1 : ∀ w, HL l v w → Calls Try.prog 12 #[v] w fun e w' => e = .returned (.bool false) ∧ Below w.heap.size w w' := fun w h => by rw [← hr]; exact right_any l v w h HM.out
      have D1 := Lib.hid D1
      clear hr
      go_enter Try.func5, Try.ntmps5
      go_wp2_with fail
      rw [← hv, ← hnl]
      refine (D1.out _ (SL.stays enc 3 l v w _ HH.out (below1 _ _))).mono ?_
      rintro e w1 ⟨rfl, hb1⟩
      go_wp2_with fail
      refine (awake_any _).mono ?_
      rintro e w2 ⟨rfl, hb2⟩
      go_wp2
      go_ret
      exact ⟨rfl, nx (below1 _ _) (nx hb1 hb2)⟩
    · have D1 : ∀ w, HL l v w → Calls Try.prog 12 #[v] w fun e w' => e = .returned (.bool true) ∧ Below w.heap.size w w' := fun w h => by rw [← hr]; exact right_any l v w h HM.out
      have D1 := Lib.hid D1
      by_cases hE : giveE l (p, q) n = 0
      · have C1 : ∀ w, HL l v w → Calls Try.prog 7 #[v, .agg #[.int .i64 p, .int .i64 q], .int .i64 n] w (Post2 (HL (giveL l (p, q) n)) 0 w) := fun w h => by rw [← hE]; exact give_any l v p q n w h HM.out
        obtain ⟨b1, b2, b3, b4⟩ := back_ok hE
        obtain ⟨g1, g2, g3, g4, g5, _⟩ := give_ok hE
        obtain ⟨m, hm⟩ : ∃ x, giveL l (p, q) n = x := ⟨_, rfl⟩
        rw [hm] at b1 b2 b3 b4 C1 HG1
        have C2 : ∀ x w, HL m x w → Calls Try.prog 9 #[x, .agg #[.int .i64 p, .int .i64 q], .int .i64 n] w (Post2 (HL l) 0 w) := fun x w h => by
          have k := take_any m x p q n w h HG1.out
          rw [b3, b4] at k; exact k
        have B2 := Lib.hid b2
        have RM := Lib.hid (right_iff.2 b1)
        have D2 : ∀ x w, HL m x w → Calls Try.prog 12 #[x] w fun e w' => e = .returned (.bool true) ∧ Below w.heap.size w w' := fun x w h => by rw [← RM.out]; exact right_any m x w h HG1.out
        obtain ⟨g, hg⟩ : ∃ x, get l (p, q) = x := ⟨_, rfl⟩
        have D3 : ∀ w, HL l v w → Calls Try.prog 14 #[v, .agg #[.int .i64 p, .int .i64 q]] w fun e w' => e = .returned (.int .i64 g) ∧ Below w.heap.size w w' := fun w h => by rw [← hg]; exact get_any l v p q w h HM.out
        have D4 : ∀ x w, HL m x w → Calls Try.prog 14 #[x, .agg #[.int .i64 p, .int .i64 q]] w fun e w' => e = .returned (.int .i64 (g + n)) ∧ Below w.heap.size w w' := fun x w h => by
          have k := get_any m x p q w h HG1.out
          rw [b2, if_pos rfl, hg] at k; exact k
        rw [hg] at g4 g5
        have C1 := Lib.hid C1
        have C2 := Lib.hid C2
        have D2 := Lib.hid D2
        have D3 := Lib.hid D3
        have D4 := Lib.hid D4
        clear hr hE b1 b2 b3 b4 g1 g2 hm hg
        go_enter Try.func5, Try.ntmps5
        go_wp2_with fail
        rw [← hv, ← hnl]
        obtain ⟨W, hW⟩ : ∃ W, W = w.alloc (.cells #[.int .i64 p, .int .i64 q] 24) := ⟨_, rfl⟩
        have P0 : Hid (W.cell? ⟨w.heap.size, 0, none⟩ = some (.int .i64 p) ∧ W.cell? ⟨w.heap.size, 1, none⟩ = some (.int .i64 q)) := Lib.hid (by rw [hW]; exact ⟨by simp [go_sem], by simp [go_sem]⟩)
        have hb0 : Below w.heap.size w W := hW ▸ below1 w _
        have hz0 : w.heap.size < W.heap.size := by rw [hW]; simp
        rw [← hW]
        clear hW
        have H0 := Lib.hid (SL.stays enc 3 l v w _ HH.out hb0)
        clear HH hnl hv
        refine (D1.out _ H0.out).mono ?_
        rintro e w1 ⟨rfl, hb⟩
        have P1 : Hid (w1.cell? ⟨w.heap.size, 0, none⟩ = some (.int .i64 p) ∧ w1.cell? ⟨w.heap.size, 1, none⟩ = some (.int .i64 q)) := Lib.hid ⟨by rw [hb.cell (p := ⟨w.heap.size, 0, none⟩) hz0]; exact P0.out.1, by rw [hb.cell (p := ⟨w.heap.size, 1, none⟩) hz0]; exact P0.out.2⟩
        have hz1 : w.heap.size < w1.heap.size := by have := hb.size; omega
        have H1 := Lib.hid (SL.stays enc 3 l v _ _ H0.out hb)
        have hb1 := nx hb0 hb
        clear hb hb0 hz0
        obtain ⟨k0, k1⟩ := P1.out
        go_wp2_with fail
        clear k0 k1
        refine (C1.out _ H1.out).mono ?_
        rintro e w2 ⟨x1, rfl, hb, hx1⟩
        have P2 : Hid (w2.cell? ⟨w.heap.size, 0, none⟩ = some (.int .i64 p) ∧ w2.cell? ⟨w.heap.size, 1, none⟩ = some (.int .i64 q)) := Lib.hid ⟨by rw [hb.cell (p := ⟨w.heap.size, 0, none⟩) hz1]; exact P1.out.1, by rw [hb.cell (p := ⟨w.heap.size, 1, none⟩) hz1]; exact P1.out.2⟩
        have hz2 : w.heap.size < w2.heap.size := by have := hb.size; omega
        have H2 := Lib.hid (SL.stays enc 3 l v _ _ H1.out hb)
        have X2 := Lib.hid hx1
        have hb2 := nx hb1 hb
        clear hb hb1 hz1 hx1
        obtain ⟨k0, k1⟩ := P2.out
        go_wp2_with fail
        clear k0 k1
        refine (C2.out _ _ X2.out).mono ?_
        rintro e w3 ⟨x2, rfl, hb, hx2⟩
        have P3 : Hid (w3.cell? ⟨w.heap.size, 0, none⟩ = some (.int .i64 p) ∧ w3.cell? ⟨w.heap.size, 1, none⟩ = some (.int .i64 q)) := Lib.hid ⟨by rw [hb.cell (p := ⟨w.heap.size, 0, none⟩) hz2]; exact P2.out.1, by rw [hb.cell (p := ⟨w.heap.size, 1, none⟩) hz2]; exact P2.out.2⟩
        have hz3 : w.heap.size < w3.heap.size := by have := hb.size; omega
        have H3 := Lib.hid (SL.stays enc 3 l v _ _ H2.out hb)
        have X3 := Lib.hid (SL.stays enc 3 m x1 _ _ X2.out hb)
        have Y3 := Lib.hid hx2
        have hb3 := nx hb2 hb
        clear hb hb2 hz2 hx2
        have hK : ∀ u, Below w3.heap.size w3 u → (u.cell? ⟨w.heap.size, 0, none⟩ = some (.int .i64 p) ∧ u.cell? ⟨w.heap.size, 1, none⟩ = some (.int .i64 q)) ∧ HL l v u ∧ HL m x1 u ∧ HL l x2 u := fun u hu => ⟨⟨by rw [hu.cell (p := ⟨w.heap.size, 0, none⟩) hz3]; exact P3.out.1, by rw [hu.cell (p := ⟨w.heap.size, 1, none⟩) hz3]; exact P3.out.2⟩, SL.stays enc 3 _ _ _ _ H3.out hu, SL.stays enc 3 _ _ _ _ X3.out hu, SL.stays enc 3 _ _ _ _ Y3.out hu⟩
        have HK := Lib.hid hK
        clear hK
        go_wp2
        go_loopw [45] (fun i wr => ∃ k : Nat, k ≤ 6 ∧ i = .int .i64 k ∧ Below w3.heap.size w3 wr) (fun i _ => 6 - (intOf i).toNat)
        case atStart => exact ⟨0, Nat.zero_le _, rfl, Below.refl _ _⟩
        case round =>
          obtain ⟨k, hk, rfl, hb⟩ := hrel
          by_cases hlt : k < 6
          · have hlt2 : (k : Int) < 6 := by omega
            obtain ⟨wo, rfl⟩ : ∃ wo : World, wo = wr := ⟨_, rfl⟩
            go_wp2
            go_loopw [48] (fun i wr => ∃ j : Nat, j ≤ 4 ∧ i = .int .i64 j ∧ Below w3.heap.size w3 wr) (fun i _ => 4 - (intOf i).toNat)
            case atStart => exact ⟨0, Nat.zero_le _, rfl, hb⟩
            case round =>
              obtain ⟨j, hj, rfl, hbj⟩ := hrel
              by_cases hjt : j < 4
              · have hjt2 : (j : Int) < 4 := by omega
                go_wp2
                obtain ⟨V, hV⟩ : ∃ V, V = wr.alloc (.cells #[.int .i64 k, .int .i64 j] 24) := ⟨_, rfl⟩
                have hbV : Below wr.heap.size wr V := hV ▸ below1 wr _
                have hzV : wr.heap.size < V.heap.size := by rw [hV]; simp
                have v0 : V.cell? ⟨wr.heap.size, 0, none⟩ = some (.int .i64 k) := by rw [hV]; simp [go_sem]
                have v1 : V.cell? ⟨wr.heap.size, 1, none⟩ = some (.int .i64 j) := by rw [hV]; simp [go_sem]
                have hbx := nx hbj hbV
                have hF : ∀ u, Below V.heap.size V u → (u.cell? ⟨wr.heap.size, 0, none⟩ = some (.int .i64 k) ∧ u.cell? ⟨wr.heap.size, 1, none⟩ = some (.int .i64 j)) ∧ (u.cell? ⟨w.heap.size, 0, none⟩ = some (.int .i64 p) ∧ u.cell? ⟨w.heap.size, 1, none⟩ = some (.int .i64 q)) ∧ HL l v u ∧ HL m x1 u := fun u hu => by
                  have hk := HK.out u (nx hbx hu)
                  exact ⟨⟨by rw [hu.cell (p := ⟨wr.heap.size, 0, none⟩) hzV]; exact v0, by rw [hu.cell (p := ⟨wr.heap.size, 1, none⟩) hzV]; exact v1⟩, hk.1, hk.2.1, hk.2.2.1⟩
                rw [← hV]
                clear hV v0 v1
                cases he : eqP (↑k, ↑j) (p, q)
                · obtain ⟨x, hx⟩ : ∃ x, get l (↑k, ↑j) = x := ⟨_, rfl⟩
                  have hne : ((k : Int), (j : Int)) ≠ (p, q) := fun y => by rw [eqP_iff.2 y] at he; cases he
                  have E1 : ∀ w, HL m x1 w → Calls Try.prog 14 #[x1, .agg #[.int .i64 k, .int .i64 j]] w fun e w' => e = .returned (.int .i64 x) ∧ Below w.heap.size w w' := fun w h => by
                    have k := get_any m x1 k j w h HG1.out
                    rw [B2.out, if_neg hne, hx] at k; exact k
                  have E2 : ∀ w, HL l v w → Calls Try.prog 14 #[v, .agg #[.int .i64 k, .int .i64 j]] w fun e w' => e = .returned (.int .i64 x) ∧ Below w.heap.size w w' := fun w h => by
                    rw [← hx]; exact get_any l v k j w h HM.out
                  have E1 := Lib.hid E1
                  have E2 := Lib.hid E2
                  clear hx hne
                  refine Rf.region [0, 1, 2, 3, 4, 5, 6, 7, 8, 9, 10, 11] (by kernel_rfl) (by kernel_rfl) (by kernel_rfl) (fun _ _ d _ _ h => by cases d <;> exact h) ?_
                  repeat (first | (refine Rf.Steps.skip (by rfl) (by kernel_rfl) (by rfl) ?_; simp only [Act.put, List.setIfInBounds_toArray, List.set_cons_zero, List.set_cons_succ]) | (refine Rf.Steps.pure (v := ?_) (by rfl) (by kernel_rfl) (by rfl) ?_ ?_; rotate_left; (intro w_ hS_; have hk_ := hF w_ hS_; go_simp <;> with_reducible rfl); simp only [Act.put, List.setIfInBounds_toArray, List.set_cons_zero, List.set_cons_succ]) | (refine Rf.Steps.call (v := ?_) (f := ?_) (args := ?_) (by rfl) (by kernel_rfl) (by rfl) ?_ ?_ ?_; rotate_left 3; (intro w_ hS_; have hk_ := hF w_ hS_; go_simp <;> first | with_reducible rfl | (constructor <;> with_reducible rfl)); (intro w_ hS_; have hk_ := hF w_ hS_; first | (go_at_call 14; (first | with_reducible refine (E1.out _ hk_.2.2.2).mono ?_ | with_reducible refine (E2.out _ hk_.2.2.1).mono ?_); first | (rintro e w_ ⟨rfl, rfl⟩; refine ⟨?_, Below.refl _ _⟩; with_reducible rfl) | (rintro e w_ ⟨rfl, hb_⟩; refine ⟨?_, hb_⟩; with_reducible rfl))); simp only [Act.put, List.setIfInBounds_toArray, List.set_cons_zero, List.set_cons_succ]))
                  refine Rf.Steps.nil (by kernel_rfl) ?_
                  intro w5 hb5
                  go_wp2
                  go_roundw
                  case rel => exact ⟨j + 1, by omega, by go_num, nx hbx hb5⟩
                  case measure => simp [intOf]; omega
                · refine Rf.region [0, 1, 2, 3, 4, 5, 6, 7, 8, 9, 10, 11] (by kernel_rfl) (by kernel_rfl) (by kernel_rfl) (fun _ _ d _ _ h => by cases d <;> exact h) ?_
                  repeat (first | (refine Rf.Steps.skip (by rfl) (by kernel_rfl) (by rfl) ?_; simp only [Act.put, List.setIfInBounds_toArray, List.set_cons_zero, List.set_cons_succ]) | (refine Rf.Steps.pure (v := ?_) (by rfl) (by kernel_rfl) (by rfl) ?_ ?_; rotate_left; (intro w_ hS_; have hk_ := hF w_ hS_; go_simp <;> with_reducible rfl); simp only [Act.put, List.setIfInBounds_toArray, List.set_cons_zero, List.set_cons_succ]))
                  refine Rf.Steps.nil (by kernel_rfl) ?_
                  intro w5 hb5
                  go_wp2
                  go_roundw
                  case rel => exact ⟨j + 1, by omega, by go_num, nx hbx hb5⟩
                  case measure => simp [intOf]; omega
              · obtain rfl : j = 4 := by omega
                go_wp2
                go_roundw
                case rel => exact ⟨k + 1, by omega, by go_num, hbj⟩
                case measure => simp [intOf]; omega
          · obtain rfl : k = 6 := by omega
            go_wp2
            have hw1 : IntKind.i64.wrap (g + n) = g + n := IntWalk.i64_in _ (by omega)
            have hF : ∀ u, Below wr.heap.size wr u → (u.cell? ⟨w.heap.size, 0, none⟩ = some (.int .i64 p) ∧ u.cell? ⟨w.heap.size, 1, none⟩ = some (.int .i64 q)) ∧ HL l v u ∧ HL m x1 u ∧ HL l x2 u := fun u hu => HK.out u (nx hb hu)
            refine Rf.region [0, 1, 2, 3, 4, 5, 6, 7, 8, 9, 10, 11, 12, 13, 14, 15, 16, 17, 18, 19, 20, 21, 22, 23, 24, 25] (by kernel_rfl) (by kernel_rfl) (by kernel_rfl) (fun _ _ d _ _ h => by cases d <;> exact h) ?_
            repeat (first | (refine Rf.Steps.skip (by rfl) (by kernel_rfl) (by rfl) ?_; simp only [Act.put, List.setIfInBounds_toArray, List.set_cons_zero, List.set_cons_succ]) | (refine Rf.Steps.pure (v := ?_) (by rfl) (by kernel_rfl) (by rfl) ?_ ?_; rotate_left; (intro w_ hS_; have hk_ := hF w_ hS_; go_simp <;> with_reducible rfl); simp only [Act.put, List.setIfInBounds_toArray, List.set_cons_zero, List.set_cons_succ]) | (refine Rf.Steps.call (v := ?_) (f := ?_) (args := ?_) (by rfl) (by kernel_rfl) (by rfl) ?_ ?_ ?_; rotate_left 3; (intro w_ hS_; have hk_ := hF w_ hS_; go_simp <;> first | with_reducible rfl | (constructor <;> with_reducible rfl)); (intro w_ hS_; have hk_ := hF w_ hS_; first | (go_at_call 14; (first | with_reducible refine (D4.out _ _ hk_.2.2.1).mono ?_ | with_reducible refine (D3.out _ hk_.2.1).mono ?_); first | (rintro e w_ ⟨rfl, rfl⟩; refine ⟨?_, Below.refl _ _⟩; with_reducible rfl) | (rintro e w_ ⟨rfl, hb_⟩; refine ⟨?_, hb_⟩; with_reducible rfl)) | (go_at_call 11; refine (same_is _ hk_.2.2.2 hk_.2.1 HM.out).mono ?_; first | (rintro e w_ ⟨rfl, rfl⟩; refine ⟨?_, Below.refl _ _⟩; with_reducible rfl) | (rintro e w_ ⟨rfl, hb_⟩; refine ⟨?_, hb_⟩; with_reducible rfl)) | (go_at_call 12; refine (D2.out _ _ hk_.2.2.1).mono ?_; first | (rintro e w_ ⟨rfl, rfl⟩; refine ⟨?_, Below.refl _ _⟩; with_reducible rfl) | (rintro e w_ ⟨rfl, hb_⟩; refine ⟨?_, hb_⟩; with_reducible rfl)) | (go_at_call 6; refine (awake_any _).mono ?_; first | (rintro e w_ ⟨rfl, rfl⟩; refine ⟨?_, Below.refl _ _⟩; with_reducible rfl) | (rintro e w_ ⟨rfl, hb_⟩; refine ⟨?_, hb_⟩; with_reducible rfl))); simp only [Act.put, List.setIfInBounds_toArray, List.set_cons_zero, List.set_cons_succ]))
            refine Rf.Steps.nil (by kernel_rfl) ?_
            intro w5 hb5
            go_wp2
            go_ret
            exact ⟨rfl, nx hb3 (nx hb hb5)⟩
      · have hL : giveL l (p, q) n = l := by unfold giveL; rw [if_neg hE]
        obtain ⟨E, hEE⟩ : ∃ x, giveE l (p, q) n = x := ⟨_, rfl⟩
        have C1 : ∀ w, HL l v w → Calls Try.prog 7 #[v, .agg #[.int .i64 p, .int .i64 q], .int .i64 n] w (Post2 (HL l) E w) := fun w h => by
          have k := give_any l v p q n w h HM.out
          rw [hL, hEE] at k; exact k
        have C1 := Lib.hid C1
        rw [hEE] at hE
        have hd2 : (E != 0) = true := by simpa using hE
        clear hr hE hL hEE HG1
        go_enter Try.func5, Try.ntmps5
        go_wp2_with fail
        rw [← hv, ← hnl]
        obtain ⟨W, hW⟩ : ∃ W, W = w.alloc (.cells #[.int .i64 p, .int .i64 q] 24) := ⟨_, rfl⟩
        have p0 : W.cell? ⟨w.heap.size, 0, none⟩ = some (.int .i64 p) := by rw [hW]; simp [go_sem]
        have p1 : W.cell? ⟨w.heap.size, 1, none⟩ = some (.int .i64 q) := by rw [hW]; simp [go_sem]
        have hb0 : Below w.heap.size w W := hW ▸ below1 w _
        have hz0 : w.heap.size < W.heap.size := by rw [hW]; simp
        rw [← hW]
        clear hW
        have H0 := Lib.hid (SL.stays enc 3 l v w _ HH.out hb0)
        clear HH hnl hv
        refine (D1.out _ H0.out).mono ?_
        rintro e w1 ⟨rfl, hb⟩
        have l0 : w1.cell? ⟨w.heap.size, 0, none⟩ = some (.int .i64 p) := by rw [hb.cell (p := ⟨w.heap.size, 0, none⟩) hz0]; exact p0
        have l1 : w1.cell? ⟨w.heap.size, 1, none⟩ = some (.int .i64 q) := by rw [hb.cell (p := ⟨w.heap.size, 1, none⟩) hz0]; exact p1
        have H1 := Lib.hid (SL.stays enc 3 l v _ _ H0.out hb)
        have hb1 := nx hb0 hb
        clear hb hb0 hz0 p0 p1
        go_wp2_with fail
        refine (C1.out _ H1.out).mono ?_
        rintro e w2 ⟨x1, rfl, hb, hx1⟩
        have H2 := Lib.hid (SL.stays enc 3 l v _ _ H1.out hb)
        have X2 := Lib.hid hx1
        have hb2 := nx hb1 hb
        clear hb hb1 hx1 l0 l1
        go_wp2_with fail
        refine (same_is _ X2.out H2.out HM.out).mono ?_
        rintro e w3 ⟨rfl, hb3⟩
        go_wp2_with fail
        refine (awake_any _).mono ?_
        rintro e w4 ⟨rfl, hb4⟩
        go_wp2
        go_ret
        exact ⟨rfl, nx hb2 (nx hb3 hb4)⟩
end Go.Proofs.Yteandjnbcolphaa.Ac
