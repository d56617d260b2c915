/- Raise, Count, full of package vector; the document's own Raise, Count. -/
import Derived.Test.YtngnkjbcnmcngaaDoorVeA
namespace Go.Proofs.YtngnkjbcnmcngaaDoor.Ve
open Go.RowKit
set_option linter.unusedVariables false
open Go.Proofs.YtngnkjbcnmcngaaDoor.Fx (nx nd)
theorem near_is (x : Int) : (if 400 < (if x < 0 then 0 else x) then 400 else (if x < 0 then 0 else x)) = near x := by
  unfold near; split <;> split <;> omega
theorem near_is2 (x : Int) : (if 0 < (if 400 < x then 400 else x) then (if 400 < x then 400 else x) else 0) = near x := by
  unfold near; split <;> split <;> omega
set_option maxHeartbeats 400000 in
theorem full_any (n : Int) (h1 : 1 ≤ n) (h7 : n ≤ 7) (w : World) :
    Calls Tryd.prog 61 #[.int .i64 n] w fun e w' => e = .returned (.agg (fc (fullTo n.toNat))) ∧ Below w.heap.size w w' := by
  obtain ⟨m, rfl⟩ : ∃ m : Nat, n = m := ⟨n.toNat, by omega⟩
  have hm7 : m ≤ 7 := by omega
  rw [Int.toNat_natCast]
  clear h1 h7
  go_enter Tryd.func61, Tryd.ntmps61
  go_wp2
  go_loopw [7] (fun i wr => ∃ k : Nat, k ≤ m ∧ i = .int .i64 k ∧ wr = (w.alloc (.cells (fc zeroV) 29)).alloc (.cells (fc (fullTo k)) 29)) (fun i _ => m - (intOf i).toNat)
  case atStart => exact ⟨0, Nat.zero_le _, rfl, by rw [full_zero]⟩
  case round =>
    obtain ⟨k, hk, rfl, rfl⟩ := hrel
    by_cases hlt : k < m
    · have hs := full_succ k
      have hlt7 : (k : Int) < 7 := by omega
      have hlt8 : k < 7 := by omega
      have hlt2 : (k : Int) < m := by omega
      go_wp2
      go_roundw
      case rel => exact ⟨k + 1, by omega, by go_num, rfl⟩
      case measure => simp [intOf]; omega
    · obtain rfl : k = m := by omega
      go_wp2
      exact bodyPost_ret (v := .agg (fc (fullTo k))) (ret_fc Tryd.results61 _ _ _ (by simp [go_sem])) rfl ⟨rfl, below2 _ _ _⟩
end Go.Proofs.YtngnkjbcnmcngaaDoor.Ve
