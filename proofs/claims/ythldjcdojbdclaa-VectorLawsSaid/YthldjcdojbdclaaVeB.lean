/- Raise, Count, full of package vector; the document's own Raise, Count. -/
import Derived.Test.YthldjcdojbdclaaVeA
namespace Go.Proofs.Ythldjcdojbdclaa.Ve
open Go.RowKit
set_option linter.unusedVariables false
open Go.Proofs.Ythldjcdojbdclaa.Fx (nx nd)
theorem isReplica_any (r : Int) (w : World) :
    Calls Try.prog 20 #[.int .i64 r] w fun e w' => e = .returned (.bool (isR r)) ∧ w' = w := by
  by_cases h0 : 0 ≤ r
  · have hd : decide (r < 7) = isR r := by unfold isR; simp [h0]
    have H := Lib.hid hd
    clear hd
    go_enter Try.func20, Try.ntmps20
    go_wp2
    go_ret
    exact ⟨by rw [← H.out]; rfl, rfl⟩
  · have hd : isR r = false := by unfold isR; simp [h0]
    have H := Lib.hid hd
    have hd1 : decide (0 ≤ r) = false := by simpa using h0
    clear hd
    go_enter Try.func20, Try.ntmps20
    go_wp2
    go_ret
    exact ⟨by rw [H.out]; rfl, rfl⟩
set_option maxHeartbeats 400000 in
theorem raise_any (v : Nat → Int) (r s : Int) (w : World) :
    Calls Try.prog 10 #[.agg (fc v), .agg #[.int .i64 r, .int .i64 s]] w fun e w' => e = .returned (.agg (fc (raiseV v r s))) ∧ Below w.heap.size w w' := by
  by_cases h : 0 ≤ r ∧ r < 7
  · have hR : isR r = true := by simpa [isR] using h
    obtain ⟨h0, h7⟩ := h
    have hn : r.toNat < 7 := by omega
    have HR := Lib.hid hR
    obtain ⟨m, hm⟩ : ∃ m, (if v r.toNat < s then s else v r.toNat) = m := ⟨_, rfl⟩
    have HV : Hid (fc (raiseV v r s) = fc (upd v r.toNat m)) := Lib.hid (by rw [raise_in ⟨h0, h7⟩, ← max_if, hm])
    clear hR
    rw [HV.out]
    go_enter Try.func10, Try.ntmps10
    go_wp2_with fail
    refine (isReplica_any r _).mono ?_
    rintro e w' ⟨rfl, rfl⟩
    rw [HR.out]
    go_wp2
    go_region
    go_wp2
    exact bodyPost_ret (v := .agg (fc (upd v r.toNat m))) (ret_fc Try.results10 _ _ _ (by simp [go_sem])) rfl ⟨rfl, (below3 _ _ _ _).drew⟩
  · have hR : isR r = false := by simpa [isR] using h
    have HR := Lib.hid hR
    have HV := Lib.hid (raise_out (v := v) (s := s) h)
    clear hR h
    rw [HV.out]
    go_enter Try.func10, Try.ntmps10
    go_wp2_with fail
    refine (isReplica_any r _).mono ?_
    rintro e w' ⟨rfl, rfl⟩
    rw [HR.out]
    go_wp2
    exact bodyPost_ret (v := .agg (fc v)) (ret_fc Try.results10 _ _ _ (by simp [go_sem])) rfl ⟨rfl, below3 _ _ _ _⟩
set_option maxHeartbeats 400000 in
theorem rRaise_any (v : Nat → Int) (r s : Int) (w : World) :
    Calls Try.prog 11 #[.agg (fc v), .agg #[.int .i64 r, .int .i64 s]] w fun e w' => e = .returned (.agg (fc (raiseV v r s))) ∧ Below w.heap.size w w' := by
  by_cases h0 : 0 ≤ r
  · by_cases h7 : r < 7
    · have hn : r.toNat < 7 := by omega
      obtain ⟨m, hm⟩ : ∃ m, (if v r.toNat < s then s else v r.toNat) = m := ⟨_, rfl⟩
      have HV : Hid (fc (raiseV v r s) = fc (upd v r.toNat m)) := Lib.hid (by rw [raise_in ⟨h0, h7⟩, ← max_if, hm])
      rw [HV.out]
      go_enter Try.func11, Try.ntmps11
      go_wp2
      go_region
      go_wp2
      exact bodyPost_ret (v := .agg (fc (upd v r.toNat m))) (ret_fc Try.results11 _ _ _ (by simp [go_sem])) rfl ⟨rfl, (below3 _ _ _ _).drew⟩
    · have HV := Lib.hid (raise_out (v := v) (s := s) (fun x => h7 x.2))
      have hd : decide (r < 7) = false := by simpa using h7
      rw [HV.out]
      go_enter Try.func11, Try.ntmps11
      go_wp2
      exact bodyPost_ret (v := .agg (fc v)) (ret_fc Try.results11 _ _ _ (by simp [go_sem])) rfl ⟨rfl, below3 _ _ _ _⟩
  · have HV := Lib.hid (raise_out (v := v) (s := s) (fun x => h0 x.1))
    have hd : decide (0 ≤ r) = false := by simpa using h0
    rw [HV.out]
    go_enter Try.func11, Try.ntmps11
    go_wp2
    exact bodyPost_ret (v := .agg (fc v)) (ret_fc Try.results11 _ _ _ (by simp [go_sem])) rfl ⟨rfl, below3 _ _ _ _⟩
theorem near_is (x : Int) : (if 400 < (if x < 0 then 0 else x) then 400 else (if x < 0 then 0 else x)) = near x := by
  unfold near; split <;> split <;> omega
theorem near_is2 (x : Int) : (if 0 < (if 400 < x then 400 else x) then (if 400 < x then 400 else x) else 0) = near x := by
  unfold near; split <;> split <;> omega
set_option maxHeartbeats 400000 in
theorem count_any (v : Nat → Int) (w : World) :
    Calls Try.prog 16 #[.agg (fc v)] w fun e w' => e = .returned (.int .i64 (cntV v)) ∧ Below w.heap.size w w' := by
  go_enter Try.func16, Try.ntmps16
  go_wp2
  go_loop [3, 7] (fun c i => ∃ k : Nat, k ≤ 7 ∧ i = .int .i64 k ∧ c = .int .i64 (cntTo v k)) (fun _ i => 7 - (intOf i).toNat)
  case atStart => exact ⟨0, Nat.zero_le _, rfl, rfl⟩
  case round =>
    obtain ⟨k, hk, rfl, rfl⟩ := hrel
    by_cases hlt : k < 7
    · have hn := near_is (v k)
      have hlt2 : (k : Int) < 7 := by omega
      have hc := cnt_le v k
      have hl := near_le (v k)
      have hw : IntKind.i64.wrap (cntTo v k + near (v k)) = cntTo v k + near (v k) := Go.IntWalk.i64_in _ (by omega)
      go_wp2
      go_round
      case rel => exact ⟨k + 1, by omega, by go_num, rfl⟩
      case measure => simp [intOf]; omega
    · obtain rfl : k = 7 := by omega
      go_wp2
      go_ret
      exact ⟨rfl, below1 _ _⟩
set_option maxHeartbeats 400000 in
theorem rCount_any (v : Nat → Int) (w : World) :
    Calls Try.prog 17 #[.agg (fc v)] w fun e w' => e = .returned (.int .i64 (cntV v)) ∧ Below w.heap.size w w' := by
  go_enter Try.func17, Try.ntmps17
  go_wp2
  go_loop [3, 7] (fun c i => ∃ k : Nat, k ≤ 7 ∧ i = .int .i64 k ∧ c = .int .i64 (cntTo v k)) (fun _ i => 7 - (intOf i).toNat)
  case atStart => exact ⟨0, Nat.zero_le _, rfl, rfl⟩
  case round =>
    obtain ⟨k, hk, rfl, rfl⟩ := hrel
    by_cases hlt : k < 7
    · have hn := near_is2 (v k)
      have hlt2 : (k : Int) < 7 := by omega
      have hc := cnt_le v k
      have hl := near_le (v k)
      have hw : IntKind.i64.wrap (cntTo v k + near (v k)) = cntTo v k + near (v k) := Go.IntWalk.i64_in _ (by omega)
      go_wp2
      go_round
      case rel => exact ⟨k + 1, by omega, by go_num, rfl⟩
      case measure => simp [intOf]; omega
    · obtain rfl : k = 7 := by omega
      go_wp2
      go_ret
      exact ⟨rfl, below1 _ _⟩
set_option maxHeartbeats 400000 in
theorem full_any (n : Int) (h1 : 1 ≤ n) (h7 : n ≤ 7) (w : World) :
    Calls Try.prog 19 #[.int .i64 n] w fun e w' => e = .returned (.agg (fc (fullTo n.toNat))) ∧ Below w.heap.size w w' := by
  obtain ⟨m, rfl⟩ : ∃ m : Nat, n = m := ⟨n.toNat, by omega⟩
  have hm7 : m ≤ 7 := by omega
  rw [Int.toNat_natCast]
  clear h1 h7
  go_enter Try.func19, Try.ntmps19
  go_wp2
  go_loopw [7] (fun i wr => ∃ k : Nat, k ≤ m ∧ i = .int .i64 k ∧ wr = (w.alloc (.cells (fc zeroV) 23)).alloc (.cells (fc (fullTo k)) 23)) (fun i _ => m - (intOf i).toNat)
  case atStart => exact ⟨0, Nat.zero_le _, rfl, by rw [full_zero]⟩
  case round =>
    obtain ⟨k, hk, rfl, rfl⟩ := hrel
    by_cases hlt : k < m
    · have hs := full_succ k
      have hlt7 : (k : Int) < 7 := by omega
      have hlt8 : k < 7 := by omega
      have hlt2 : (k : Int) < m := by omega
      go_wp2
      go_roundw
      case rel => exact ⟨k + 1, by omega, by go_num, rfl⟩
      case measure => simp [intOf]; omega
    · obtain rfl : k = m := by omega
      go_wp2
      exact bodyPost_ret (v := .agg (fc (fullTo k))) (ret_fc Try.results19 _ _ _ (by simp [go_sem])) rfl ⟨rfl, below2 _ _ _⟩
end Go.Proofs.Ythldjcdojbdclaa.Ve
