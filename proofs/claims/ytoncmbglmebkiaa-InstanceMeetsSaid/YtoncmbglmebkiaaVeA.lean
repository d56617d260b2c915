/- Max, Raise of package vector and the document's own. -/
import Derived.Test.YtoncmbglmebkiaaVeEq
namespace Go.Proofs.Ytoncmbglmebkiaa.Ve
open Go.RowKit
set_option linter.unusedVariables false
open Go.Proofs.Ytoncmbglmebkiaa.Fx (nx nd)
set_option maxHeartbeats 400000 in
theorem max_any (a b : Nat → Int) (w : World) :
    Calls Try.prog 39 #[.agg (fc a), .agg (fc b)] w fun e w' => e = .returned (.agg (fc (maxV a b))) ∧ Below w.heap.size w w' := by
  go_enter Try.func39, Try.ntmps39
  go_wp2
  go_loopw [8] (fun i wr => ∃ k : Nat, k ≤ 7 ∧ i = .int .i64 k ∧ wr = ((w.alloc (.cells (fc (mixV a b k)) 31)).alloc (.cells (fc b) 31)).alloc (.cells (fc zeroV) 31)) (fun i _ => 7 - (intOf i).toNat)
  case atStart => exact ⟨0, Nat.zero_le _, rfl, by rw [mix_zero]⟩
  case round =>
    obtain ⟨k, hk, rfl, rfl⟩ := hrel
    by_cases hlt : k < 7
    · have hm := mix_at a b k
      have hs := mix_succ a b k
      have hlt2 : (k : Int) < 7 := by omega
      go_wp2
      go_roundw
      case rel => exact ⟨k + 1, by omega, by go_num, rfl⟩
      case measure => simp [intOf]; omega
    · obtain rfl : k = 7 := by omega
      have he : fc (mixV a b 7) = fc (maxV a b) := fc_congr (mix_all a b)
      go_wp2
      exact bodyPost_ret (v := .agg (fc (maxV a b))) (ret_fc Try.results39 _ _ _ (by simp [go_sem])) rfl ⟨rfl, below3 _ _ _ _⟩
end Go.Proofs.Ytoncmbglmebkiaa.Ve
