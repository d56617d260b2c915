/- encode and decode. -/
import Derived.Test.YtodlibpibopnoaaDoorRows
import Derived.WalkKit
import Derived.ProofKit
import Derived.Test.YtodlibpibopnoaaDoorFxPure
import Derived.WalkLawsBesides
import Derived.WalkSpells
namespace Go.Proofs.YtodlibpibopnoaaDoor.Fx
open Go.RowKit
set_option linter.unusedVariables false
theorem info5 : (Tryd.prog.info? 5).map (fun i => (i.zero, i.size, i.bytes)) = some (some (.int .u8 0), 1, 1) := by kernel_rfl
theorem make_any (U : Int) (n : Nat) (hn : n ≤ 8) (w : World) :
    (Instr.makeSlice 40 (.int .i64 n) (.int .i64 n)).run Tryd.prog w = .ok (.slice (some ⟨w.heap.size, 0, none⟩) n n) (w.alloc (.cells (arr U n 0) 5)) := by
  obtain ⟨i0, hi, hz0, hz1, hz2⟩ := info_parts info5
  have h := run_make (P := Tryd.prog) w 40 5 i0 (.int .u8 0) Tryd.underlying40 hi hz0 .i64 .i64 n n (by omega) (by omega) (by rw [hz2]; omega) (by omega)
  rw [h, hz1, ← arr_zero]
  simp [Value.cells]
theorem conv_any (U : Int) (n : Nat) (w : World) :
    (convert 40 9 (.slice (some ⟨w.heap.size, 0, none⟩) n n)).run Tryd.prog (w.alloc (.cells (arr U n n) 5)) = .ok (.string (enc U n)) (w.alloc (.cells (arr U n n) 5)) :=
  run_convert_bytes_arg (P := Tryd.prog) _ 40 5 Tryd.underlying40 Tryd.underlying5 _ 0 n n (encL U n) (encL_length U n) (fun i hi => by rw [World.cell?_alloc_at _ _ _ _ rfl, Nat.zero_add]; exact arr_getD U n i hi) 9 Tryd.underlying9
set_option maxHeartbeats 400000 in
theorem encode_any (U : Int) (n : Nat) (h0 : 0 ≤ U) (h1 : U < 18446744073709551616) (hn : n ≤ 8) (w : World) :
    Calls Tryd.prog 43 #[.int .u64 U, .int .i64 n] w fun e w' => e = .returned (.string (enc U n)) ∧ w.alloc (.cells (arr U n n) 5) = w' := by
  have hmk := make_any U n hn
  go_enter Tryd.func43, Tryd.ntmps43
  go_wp2
  go_loopw [10] (fun i wr => ∃ k : Nat, k ≤ n ∧ i = .int .i64 k ∧ wr = w.alloc (.cells (arr U n k) 5)) (fun i _ => n - (intOf i).toNat)
  case atStart => exact ⟨0, Nat.zero_le _, rfl, rfl⟩
  case round =>
    obtain ⟨k, hk, rfl, rfl⟩ := hrel
    by_cases hlt : k < n
    · have hc := arr_at U n k hlt
      go_wp2
      go_roundw
      case rel => exact ⟨k + 1, by omega, by go_num, by rw [← arr_succ]; rfl⟩
      case measure => simp [intOf]; omega
    · obtain rfl : k = n := by omega
      have hcv := conv_any U k w
      go_wp2
      go_ret
      exact ⟨rfl, rfl⟩
end Go.Proofs.YtodlibpibopnoaaDoor.Fx
