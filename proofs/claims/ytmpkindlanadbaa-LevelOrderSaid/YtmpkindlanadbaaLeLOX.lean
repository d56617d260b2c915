/- LevelOrder: walked. -/
import Derived.Test.YtmpkindlanadbaaLeLOT
import Derived.Test.YtmpkindlanadbaaLeLOF
namespace Go.Proofs.Ytmpkindlanadbaa.Le
open Go.RowKit
set_option linter.unusedVariables false
open Go.Proofs.Ytmpkindlanadbaa.Rw
open Go.Proofs.Ytmpkindlanadbaa.Da
set_option maxRecDepth 100000 in
set_option maxHeartbeats 1600000 in
theorem walkOrder (ops : List Op3) (v : Value) (buy : Bool) (w : World) (h : PL (Bs.of w.heap.size) ops v w) (hg : wfPs ops) :
    Calls Try.prog 4 #[v, .bool buy] w fun e w' => e = .returned (.bool true) ∧ Below w.heap.size w w' := by
  by_cases h80 : ops.length ≤ 80
  · cases buy
    · exact walkOrderF ops v w h h80
    · exact walkOrderT ops v w h h80
  · have hm := hg.1
    obtain ⟨a0, c0, rfl, hel⟩ := h
    obtain ⟨n, hn⟩ : ∃ n, n = ops.length := ⟨_, rfl⟩
    rw [← hn] at h80 ⊢
    have hd : decide ((80 : Int) < n) = true := decide_eq_true (by omega)
    have hd' : decide (80 < n) = true := decide_eq_true (by omega)
    clear h80 hn hel hm hg
    go_enter Try.func4, Try.ntmps4
    go_wp2_with fail
    refine (awake_any w).mono ?_
    rintro e w' ⟨rfl, hb⟩
    go_wp2
    go_ret
    exact ⟨rfl, hb⟩
end Go.Proofs.Ytmpkindlanadbaa.Le
