/- Meets of package command. -/
import Derived.Test.YtinopnmacfkiiaaDoorCmE
import Derived.Test.YtinopnmacfkiiaaDoorRf
namespace Go.Proofs.YtinopnmacfkiiaaDoor.Cm
open Go.RowKit
set_option linter.unusedVariables false
open Go.Proofs.YtinopnmacfkiiaaDoor.Rw
open Go.Proofs.YtinopnmacfkiiaaDoor.Fx (ret_v ret_bool ret_int)
/-- Is one of the first n keys of a among b's? -/
def anyF (a b : Nat → Int) (n : Nat) : Bool := (List.range n).any fun j => hasB b (kl j) (ki a j)
theorem anyF_succ (a b : Nat → Int) (n : Nat) : anyF a b (n + 1) = (anyF a b n || hasB b (kl n) (ki a n)) := by
  unfold anyF; rw [List.range_succ, List.any_append]; simp
theorem hasF_1 (c : Nat → Int) (l : Bool) (x : Int) : hasF c 1 l x = keyB l x false (c 0) := by rw [hasF_succ, hasF_zero]; rfl
theorem hasF_2 (c : Nat → Int) (l : Bool) (x : Int) : hasF c 2 l x = (keyB l x false (c 0) || keyB l x true (c 3)) := by rw [hasF_succ, hasF_1]; rfl
theorem meet_any (a b : Nat → Int) (h : a 2 ≠ 0) : anyF a b (nk a) = meetB a b := by
  have h1 : (a 2 != 0) = true := by simp [h]
  have e0 : ∀ c : Nat → Int, (kl 0, ki c 0) = (false, c 0) := fun _ => rfl
  have e1 : ∀ c : Nat → Int, (kl 1, ki c 1) = (true, c 3) := fun _ => rfl
  have a1 : anyF a b 1 = hasB b false (a 0) := by rw [anyF_succ]; rfl
  have a2 : anyF a b 2 = (hasB b false (a 0) || hasB b true (a 3)) := by rw [anyF_succ, a1]; rfl
  unfold meetB
  rw [h1]
  cases la : laneB (a 2) <;> cases lb : laneB (b 2)
  · have na : nk a = 1 := by unfold nk; rw [la]; rfl
    have nb : nk b = 1 := by unfold nk; rw [lb]; rfl
    rw [na, a1, hasB, nb, hasF_1]; simp [keyB]
  · have na : nk a = 1 := by unfold nk; rw [la]; rfl
    have nb : nk b = 2 := by unfold nk; rw [lb]; rfl
    rw [na, a1, hasB, nb, hasF_2]; simp [keyB]
  · have na : nk a = 2 := by unfold nk; rw [la]; rfl
    have nb : nk b = 1 := by unfold nk; rw [lb]; rfl
    rw [na, a2, hasB, hasB, nb, hasF_1, hasF_1]; simp [keyB]
  · have na : nk a = 2 := by unfold nk; rw [la]; rfl
    have nb : nk b = 2 := by unfold nk; rw [lb]; rfl
    rw [na, a2, hasB, hasB, nb, hasF_2, hasF_2]; simp [keyB]
    cases (b 2 != 0) <;> simp
theorem meet_none (a b : Nat → Int) (h : a 2 = 0) : meetB a b = false := by unfold meetB; simp [h]
theorem anyF_mono {a b : Nat → Int} {n m : Nat} (h : n ≤ m) (k : anyF a b n = true) : anyF a b m = true := by
  induction m with
  | zero => rw [← Nat.le_zero.1 h]; exact k
  | succ m ih =>
    by_cases e : n = m + 1
    · rw [← e]; exact k
    · rw [anyF_succ, ih (by omega)]; rfl
set_option maxHeartbeats 1600000 in
theorem meets_any (a b : Nat → Int) (w : World) :
    Calls Tryd.prog 11 #[.agg (fc a), .agg (fc b)] w fun e w' => e = .returned (.bool (meetB a b)) ∧ Below w.heap.size w w' := by
  go_enter Tryd.func11, Tryd.ntmps11
  go_wp2_with fail
  obtain ⟨W, hW⟩ : ∃ W, W = (w.alloc (.cells (fc a) 23)).alloc (.cells (fc b) 23) := ⟨_, rfl⟩
  have hz : w.heap.size + 1 < W.heap.size := by rw [hW]; simp
  have hb0 : Below w.heap.size w W := hW ▸ below2 w _ _
  have hr0 : row W (w.heap.size + 1) = fc b := by rw [hW]; exact row_new _ _ _ _ (by simp)
  rw [← hW]
  clear hW
  refine (keys_any a _).mono ?_
  rintro e w1 ⟨v, rfl, hb1, hv⟩
  have hz1 : w.heap.size + 1 < w1.heap.size := by have := hb1.size; omega
  have hr1 : row w1 (w.heap.size + 1) = fc b := by rw [(bcell hb1).2.2.1 _ hz]; exact hr0
  have hbw := nx hb0 hb1
  clear hr0 hz hb0 hb1
  rcases hv with ⟨h0, rfl⟩ | ⟨h0, p, cap, rfl, hp, hc⟩
  · have H := Lib.hid (meet_none a b h0)
    clear h0
    go_wp2
    go_loopw [10] (fun i wr => i = .int .i64 0 ∧ Below w.heap.size w wr) (fun i _ => 0)
    case atStart => exact ⟨rfl, hbw⟩
    case round =>
      obtain ⟨rfl, hb⟩ := hrel
      go_wp2
      go_ret
      exact ⟨ret_bool H.out.symm, hb⟩
  · have HM := Lib.hid (meet_any a b h0)
    have HC := Lib.hid hc
    have hn := nk_bd a
    obtain ⟨n, hN⟩ : ∃ n, n = nk a := ⟨_, rfl⟩
    rw [← hN] at hn HM HC ⊢
    have HN := Lib.hid hN
    obtain ⟨hn1, hn2⟩ := hn
    clear hc hN h0
    go_wp2
    go_loopw [10] (fun i wr => ∃ k : Nat, k ≤ n ∧ i = .int .i64 k ∧ Below w1.heap.size w1 wr ∧ anyF a b k = false) (fun i _ => n - (intOf i).toNat)
    case atStart => exact ⟨0, Nat.zero_le _, rfl, Below.refl _ _, rfl⟩
    case round =>
      obtain ⟨k, hk, rfl, hb1, hno⟩ := hrel
      have HNo := Lib.hid hno
      clear hno
      by_cases hlt : k < n
      · have hlt2 : (k : Int) < n := by omega
        have hc := HC.out k hlt
        obtain ⟨hc0, hc1⟩ := hc
        have hB := bcell hb1
        obtain ⟨c1, f1, r1, p1⟩ := hB
        go_wp2
        obtain ⟨V, hV⟩ : ∃ V, V = wr.alloc (.cells #[.bool (kl k), .int .i64 (ki a k)] 27) := ⟨_, rfl⟩
        have hzw : wr.heap.size < V.heap.size := by rw [hV]; simp
        have hbV : Below wr.heap.size wr V := hV ▸ below1 wr _
        have hzr : w.heap.size + 1 < wr.heap.size := by have := hb1.size; omega
        have hF : ∀ u, Below V.heap.size V u → row u (w.heap.size + 1) = fc b ∧ u.cell? ⟨wr.heap.size, 0, none⟩ = some (.bool (kl k)) ∧ u.cell? ⟨wr.heap.size, 1, none⟩ = some (.int .i64 (ki a k)) := fun u hu => by
          refine ⟨?_, ?_, ?_⟩
          · rw [(bcell hu).2.2.1 _ (by omega), (bcell hbV).2.2.1 _ hzr, r1 _ hz1]; exact hr1
          · rw [hu.cell (p := ⟨wr.heap.size, 0, none⟩) hzw, hV]; simp [go_sem]
          · rw [hu.cell (p := ⟨wr.heap.size, 1, none⟩) hzw, hV]; simp [go_sem]
        rw [← hV]
        clear hV
        refine Rf.region [0, 2, 1, 3] (by kernel_rfl) (by kernel_rfl) (by kernel_rfl) (fun _ _ d _ _ h => by cases d <;> exact h) ?_
        repeat (first | (refine Rf.Steps.skip (by rfl) (by kernel_rfl) (by rfl) ?_; simp only [Act.put, List.setIfInBounds_toArray, List.set_cons_zero, List.set_cons_succ]) | (refine Rf.Steps.pure (v := ?_) (by rfl) (by kernel_rfl) (by rfl) ?_ ?_; rotate_left; (intro w_ hS_; have hk_ := hF w_ hS_; go_simp <;> with_reducible rfl); simp only [Act.put, List.setIfInBounds_toArray, List.set_cons_zero, List.set_cons_succ]))
        refine Rf.Steps.forced (by kernel_rfl) ?_
        refine Rf.One.call (KV b) (fun v => KV.stays b v) (f := ?_) (args := ?_) (by rfl) (by rfl) ?_ ?_ ?_
        rotate_left 2
        · intro w_ hS_; have hk_ := hF w_ hS_; go_simp <;> first | with_reducible rfl | (constructor <;> with_reducible rfl)
        · intro w_ hS_; have hk_ := hF w_ hS_; exact keys_any b _
        intro x u_ hx
        simp only [Act.put, List.setIfInBounds_toArray, List.set_cons_zero, List.set_cons_succ]
        refine Rf.Steps.forced (by kernel_rfl) ?_
        refine Rf.One.call (fun v _ => v = .bool (hasB b (kl k) (ki a k))) (fun v w w' h _ => h) (f := ?_) (args := ?_) (by rfl) (by rfl) ?_ ?_ ?_
        rotate_left 2
        · intro w_ hS_; have hk_ := (fun u (hu : _ ∧ KV b x u) => hu.2) w_ hS_; go_simp <;> first | with_reducible rfl | (constructor <;> with_reducible rfl)
        · intro w_ hS_; have hk_ := (fun u (hu : _ ∧ KV b x u) => hu.2) w_ hS_; exact (contains_kv b (kl k) (ki a k) x _ hk_).mono fun e w' ⟨he, hb⟩ => ⟨_, he, hb, rfl⟩
        intro y u_ hy
        simp only [Act.put, List.setIfInBounds_toArray, List.set_cons_zero, List.set_cons_succ]
        subst hy
        refine Rf.Steps.nil (by kernel_rfl) ?_
        rintro w2 ⟨⟨hb2, _⟩, _⟩
        have hb3 : Below w1.heap.size w1 w2 := nx hb1 (nx hbV hb2)
        clear hF hx hbV hb2
        cases hq : hasB b (kl k) (ki a k)
        · have HS : Hid (anyF a b (k + 1) = false) := Lib.hid (by rw [anyF_succ, HNo.out, hq]; rfl)
          clear hq
          go_wp2
          go_roundw
          case rel => exact ⟨k + 1, by omega, by go_num, hb3, HS.out⟩
          case measure => simp [intOf]; omega
        · have HS : Hid (meetB a b = true) := Lib.hid (by rw [← HM.out]; exact anyF_mono (show k + 1 ≤ n by omega) (by rw [anyF_succ, hq, Bool.or_true]))
          clear hq
          go_wp2
          go_ret
          exact ⟨ret_bool HS.out.symm, nx hbw hb3⟩
      · obtain rfl : k = n := by omega
        have HS : Hid (meetB a b = false) := Lib.hid (by rw [← HM.out]; exact HNo.out)
        go_wp2
        go_ret
        exact ⟨ret_bool HS.out.symm, nx hbw hb1⟩
set_option maxHeartbeats 1600000 in
theorem rMeets_any (a b : Nat → Int) (w : World) :
    Calls Tryd.prog 12 #[.agg (fc a), .agg (fc b)] w fun e w' => e = .returned (.bool (meetB a b)) ∧ Below w.heap.size w w' := by
  go_enter Tryd.func12, Tryd.ntmps12
  go_wp2_with fail
  obtain ⟨W, hW⟩ : ∃ W, W = (w.alloc (.cells (fc a) 23)).alloc (.cells (fc b) 23) := ⟨_, rfl⟩
  have hz : w.heap.size + 1 < W.heap.size := by rw [hW]; simp
  have hb0 : Below w.heap.size w W := hW ▸ below2 w _ _
  have hr0 : row W (w.heap.size + 1) = fc b := by rw [hW]; exact row_new _ _ _ _ (by simp)
  rw [← hW]
  clear hW
  refine (rKeys_any a _).mono ?_
  rintro e w1 ⟨v, rfl, hb1, hv⟩
  have hz1 : w.heap.size + 1 < w1.heap.size := by have := hb1.size; omega
  have hr1 : row w1 (w.heap.size + 1) = fc b := by rw [(bcell hb1).2.2.1 _ hz]; exact hr0
  have hbw := nx hb0 hb1
  clear hr0 hz hb0 hb1
  rcases hv with ⟨h0, rfl⟩ | ⟨h0, p, cap, rfl, hp, hc⟩
  · have H := Lib.hid (meet_none a b h0)
    clear h0
    go_wp2
    go_loopw [12] (fun i wr => i = .int .i64 0 ∧ Below w.heap.size w wr) (fun i _ => 0)
    case atStart => exact ⟨rfl, hbw⟩
    case round =>
      obtain ⟨rfl, hb⟩ := hrel
      go_wp2
      go_ret
      exact ⟨ret_bool H.out.symm, hb⟩
  · have HM := Lib.hid (meet_any a b h0)
    have HC := Lib.hid hc
    have hn := nk_bd a
    obtain ⟨n, hN⟩ : ∃ n, n = nk a := ⟨_, rfl⟩
    rw [← hN] at hn HM HC ⊢
    have HN := Lib.hid hN
    obtain ⟨hn1, hn2⟩ := hn
    clear hc hN h0
    go_wp2
    go_loopw [12] (fun i wr => ∃ k : Nat, k ≤ n ∧ i = .int .i64 k ∧ Below w1.heap.size w1 wr ∧ anyF a b k = false) (fun i _ => n - (intOf i).toNat)
    case atStart => exact ⟨0, Nat.zero_le _, rfl, Below.refl _ _, rfl⟩
    case round =>
      obtain ⟨k, hk, rfl, hb1, hno⟩ := hrel
      have HNo := Lib.hid hno
      clear hno
      by_cases hlt : k < n
      · have hlt2 : (k : Int) < n := by omega
        have hc := HC.out k hlt
        obtain ⟨hc0, hc1⟩ := hc
        have hB := bcell hb1
        obtain ⟨c1, f1, r1, p1⟩ := hB
        have hzr : w.heap.size + 1 < wr.heap.size := by have := hb1.size; omega
        go_wp2_with fail
        obtain ⟨V, hV⟩ : ∃ V, V = wr.alloc (.cells #[.bool (kl k), .int .i64 (ki a k)] 27) := ⟨_, rfl⟩
        have hzw : wr.heap.size < V.heap.size := by rw [hV]; simp
        have hbV : Below wr.heap.size wr V := hV ▸ below1 wr _
        have kV0 : V.cell? ⟨wr.heap.size, 0, none⟩ = some (.bool (kl k)) := by rw [hV]; simp [go_sem]
        have kV1 : V.cell? ⟨wr.heap.size, 1, none⟩ = some (.int .i64 (ki a k)) := by rw [hV]; simp [go_sem]
        rw [← hV]
        clear hV
        refine (rKeys_any b _).mono ?_
        rintro e w2 ⟨y, rfl, hb2, hy⟩
        have hzw2 : wr.heap.size < w2.heap.size := by have := hb2.size; omega
        have kW0 : w2.cell? ⟨wr.heap.size, 0, none⟩ = some (.bool (kl k)) := by rw [hb2.cell (p := ⟨wr.heap.size, 0, none⟩) hzw]; exact kV0
        have kW1 : w2.cell? ⟨wr.heap.size, 1, none⟩ = some (.int .i64 (ki a k)) := by rw [hb2.cell (p := ⟨wr.heap.size, 1, none⟩) hzw]; exact kV1
        have hbw2 : Below w1.heap.size w1 w2 := nx hb1 (nx hbV hb2)
        clear kV0 kV1 c1 f1 r1 p1 hc0 hc1 hbV hb2 hzw
        rcases hy with ⟨g0, rfl⟩ | ⟨g0, q, cap2, rfl, hq, hd⟩
        · have HS : Hid (anyF a b (k + 1) = false) := Lib.hid (by rw [anyF_succ, HNo.out]; simp [hasB, g0])
          clear g0
          go_wp2
          go_loopw [19] (fun i wr => i = .int .i64 0 ∧ Below w1.heap.size w1 wr) (fun i _ => 0)
          case atStart => exact ⟨rfl, hbw2⟩
          case round =>
            obtain ⟨rfl, hb⟩ := hrel
            go_wp2
            go_roundw
            case rel => exact ⟨k + 1, by omega, by go_num, hb, HS.out⟩
            case measure => simp [intOf]; omega
        · have HB : Hid (hasB b (kl k) (ki a k) = hasF b (nk b) (kl k) (ki a k)) := Lib.hid (by simp [hasB, g0])
          have HD := Lib.hid hd
          have hm := nk_bd b
          obtain ⟨m, hM⟩ : ∃ m, m = nk b := ⟨_, rfl⟩
          rw [← hM] at hm HB HD ⊢
          have HM2 := Lib.hid hM
          obtain ⟨hm1, hm2⟩ := hm
          clear hd hM g0
          go_wp2
          obtain ⟨wo, rfl⟩ : ∃ wo : World, wo = wr := ⟨_, rfl⟩
          go_loopw [19] (fun i wr => ∃ j : Nat, j ≤ m ∧ i = .int .i64 j ∧ Below w2.heap.size w2 wr ∧ hasF b j (kl k) (ki a k) = false) (fun i _ => m - (intOf i).toNat)
          case atStart => exact ⟨0, Nat.zero_le _, rfl, Below.refl _ _, rfl⟩
          case round =>
            obtain ⟨j, hj, rfl, hb3, hno⟩ := hrel
            have HNj := Lib.hid hno
            clear hno
            have hB := bcell hb3
            obtain ⟨c3, f3, r3, p3⟩ := hB
            by_cases hjt : j < m
            · have hjt2 : (j : Int) < m := by omega
              have hc := HD.out j hjt
              obtain ⟨hc0, hc1⟩ := hc
              have hzw3 : wo.heap.size < wr.heap.size := by have := hb3.size; omega
              cases hq2 : keyB (kl k) (ki a k) (kl j) (ki b j)
              · have HS : Hid (hasF b (j + 1) (kl k) (ki a k) = false) := Lib.hid (by rw [hasF_succ, HNj.out, hq2]; rfl)
                go_wp2
                go_roundw
                case rel => exact ⟨j + 1, by omega, by go_num, nx hb3 (below1 _ _), HS.out⟩
                case measure => simp [intOf]; omega
              · have HS : Hid (meetB a b = true) := Lib.hid (by
                  have e1 : hasF b (j + 1) (kl k) (ki a k) = true := by rw [hasF_succ, hq2, Bool.or_true]
                  have e2 : hasB b (kl k) (ki a k) = true := by rw [HB.out]; exact hasF_mono (show j + 1 ≤ m by omega) e1
                  rw [← HM.out]; exact anyF_mono (show k + 1 ≤ n by omega) (by rw [anyF_succ, e2, Bool.or_true]))
                go_wp2
                go_ret
                exact ⟨ret_bool HS.out.symm, nx hbw (nx hbw2 (nx hb3 (below1 _ _)))⟩
            · obtain rfl : j = m := by omega
              have HS : Hid (anyF a b (k + 1) = false) := Lib.hid (by rw [anyF_succ, HNo.out, HB.out, HNj.out]; rfl)
              go_wp2
              go_roundw
              case rel => exact ⟨k + 1, by omega, by go_num, nx hbw2 hb3, HS.out⟩
              case measure => simp [intOf]; omega
      · obtain rfl : k = n := by omega
        have HS : Hid (meetB a b = false) := Lib.hid (by rw [← HM.out]; exact HNo.out)
        go_wp2
        go_ret
        exact ⟨ret_bool HS.out.symm, nx hbw hb1⟩
end Go.Proofs.YtinopnmacfkiiaaDoor.Cm
