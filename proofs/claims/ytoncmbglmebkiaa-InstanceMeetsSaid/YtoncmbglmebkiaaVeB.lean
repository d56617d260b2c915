/- Raise, Count, full of package vector; the document's own Raise, Count. -/
import Derived.Test.YtoncmbglmebkiaaVeA
namespace Go.Proofs.Ytoncmbglmebkiaa.Ve
open Go.RowKit
set_option linter.unusedVariables false
open Go.Proofs.Ytoncmbglmebkiaa.Fx (nx nd)
theorem isReplica_any (r : Int) (w : World) :
    Calls Try.prog 21 #[.int .i64 r] w fun e w' => e = .returned (.bool (isR r)) ∧ w' = w := by
  by_cases h0 : 0 ≤ r
  · have hd : decide (r < 7) = isR r := by unfold isR; simp [h0]
    have H := Lib.hid hd
    clear hd
    go_enter Try.func21, Try.ntmps21
    go_wp2
    go_ret
    exact ⟨by rw [← H.out]; rfl, rfl⟩
  · have hd : isR r = false := by unfold isR; simp [h0]
    have H := Lib.hid hd
    have hd1 : decide (0 ≤ r) = false := by simpa using h0
    clear hd
    go_enter Try.func21, Try.ntmps21
    go_wp2
    go_ret
    exact ⟨by rw [H.out]; rfl, rfl⟩
set_option maxHeartbeats 400000 in
theorem raise_any (v : Nat → Int) (r s : Int) (w : World) :
    Calls Try.prog 18 #[.agg (fc v), .agg #[.int .i64 r, .int .i64 s]] w fun e w' => e = .returned (.agg (fc (raiseV v r s))) ∧ Below w.heap.size w w' := by
  by_cases h : 0 ≤ r ∧ r < 7
  · have hR : isR r = true := by simpa [isR] using h
    obtain ⟨h0, h7⟩ := h
    have hn : r.toNat < 7 := by omega
    have HR := Lib.hid hR
    obtain ⟨m, hm⟩ : ∃ m, (if v r.toNat < s then s else v r.toNat) = m := ⟨_, rfl⟩
    have HV : Hid (fc (raiseV v r s) = fc (upd v r.toNat m)) := Lib.hid (by rw [raise_in ⟨h0, h7⟩, ← max_if, hm])
    clear hR
    rw [HV.out]
    go_enter Try.func18, Try.ntmps18
    go_wp2_with fail
    refine (isReplica_any r _).mono ?_
    rintro e w' ⟨rfl, rfl⟩
    rw [HR.out]
    go_wp2
    go_region
    go_wp2
    exact bodyPost_ret (v := .agg (fc (upd v r.toNat m))) (ret_fc Try.results18 _ _ _ (by simp [go_sem])) rfl ⟨rfl, (below3 _ _ _ _).drew⟩
  · have hR : isR r = false := by simpa [isR] using h
    have HR := Lib.hid hR
    have HV := Lib.hid (raise_out (v := v) (s := s) h)
    clear hR h
    rw [HV.out]
    go_enter Try.func18, Try.ntmps18
    go_wp2_with fail
    refine (isReplica_any r _).mono ?_
    rintro e w' ⟨rfl, rfl⟩
    rw [HR.out]
    go_wp2
    exact bodyPost_ret (v := .agg (fc v)) (ret_fc Try.results18 _ _ _ (by simp [go_sem])) rfl ⟨rfl, below3 _ _ _ _⟩
theorem near_is (x : Int) : (if 400 < (if x < 0 then 0 else x) then 400 else (if x < 0 then 0 else x)) = near x := by
  unfold near; split <;> split <;> omega
theorem near_is2 (x : Int) : (if 0 < (if 400 < x then 400 else x) then (if 400 < x then 400 else x) else 0) = near x := by
  unfold near; split <;> split <;> omega
set_option maxHeartbeats 400000 in
theorem full_any (n : Int) (h1 : 1 ≤ n) (h7 : n ≤ 7) (w : World) :
    Calls Try.prog 37 #[.int .i64 n] w fun e w' => e = .returned (.agg (fc (fullTo n.toNat))) ∧ Below w.heap.size w w' := by
  obtain ⟨m, rfl⟩ : ∃ m : Nat, n = m := ⟨n.toNat, by omega⟩
  have hm7 : m ≤ 7 := by omega
  rw [Int.toNat_natCast]
  clear h1 h7
  go_enter Try.func37, Try.ntmps37
  go_wp2
  go_loopw [7] (fun i wr => ∃ k : Nat, k ≤ m ∧ i = .int .i64 k ∧ wr = (w.alloc (.cells (fc zeroV) 31)).alloc (.cells (fc (fullTo k)) 31)) (fun i _ => m - (intOf i).toNat)
  case atStart => exact ⟨0, Nat.zero_le _, rfl, by rw [full_zero]⟩
  case round =>
    obtain ⟨k, hk, rfl, rfl⟩ := hrel
    by_cases hlt : k < m
    · have hs := full_succ k
      have hlt7 : (k : Int) < 7 := by omega
      have hlt8 : k < 7 := by omega
      have hlt2 : (k : Int) < m := by omega
      go_wp2
      go_roundw
      case rel => exact ⟨k + 1, by omega, by go_num, rfl⟩
      case measure => simp [intOf]; omega
    · obtain rfl : k = m := by omega
      go_wp2
      exact bodyPost_ret (v := .agg (fc (fullTo k))) (ret_fc Try.results37 _ _ _ (by simp [go_sem])) rfl ⟨rfl, below2 _ _ _⟩
end Go.Proofs.Ytoncmbglmebkiaa.Ve
