/- decode. -/
import Derived.Test.YtodlibpibopnoaaDoorFxA
import Derived.Lib.Hide
namespace Go.Proofs.YtodlibpibopnoaaDoor.Fx
open Go.RowKit
set_option linter.unusedVariables false
set_option maxHeartbeats 400000 in
theorem decode_any (s : ByteArray) (a n : Nat) (hs : s.size ≤ maxLen) (ha : a + n ≤ s.size) (hn : n ≤ 8) (w : World) :
    Calls Tryd.prog 38 #[.string s, .int .i64 a, .int .i64 n] w fun e w' => e = .returned (.int .u64 (dec s a n)) ∧ w = w' := by
  unfold maxLen at hs
  go_enter Tryd.func38, Tryd.ntmps38
  go_wp2
  go_loop [7, 10] (fun u i => ∃ k : Nat, k ≤ n ∧ i = .int .i64 k ∧ u = .int .u64 (dec s a k)) (fun _ i => n - (intOf i).toNat)
  case atStart => exact ⟨0, Nat.zero_le _, rfl, rfl⟩
  case round =>
    obtain ⟨k, hk, rfl, rfl⟩ := hrel
    by_cases hlt : k < n
    · have hi : a + k < s.size := by omega
      have HS := Lib.hid (dec_step s a k (by omega) hi)
      go_wp2
      go_round
      case rel => exact ⟨k + 1, by omega, by go_num, by rw [HS.out]⟩
      case measure => simp [intOf]; omega
    · obtain rfl : k = n := by omega
      go_wp2
      go_ret
      exact ⟨rfl, rfl⟩
end Go.Proofs.YtodlibpibopnoaaDoor.Fx
