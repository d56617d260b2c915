/- MoneyOrder: the call, at all slices. -/
import Derived.Test.YtpjnebkfijmkpaaMoLOrdS
namespace Go.Proofs.Ytpjnebkfijmkpaa.Mo
open Go.RowKit
set_option linter.unusedVariables false
open Go.Proofs.Ytpjnebkfijmkpaa.Fx (nx nd)
set_option maxHeartbeats 1600000 in
theorem walkOrder (a1 : Option Addr) (n1 c1 : Nat) (l1 : List Int) (a2 : Option Addr) (n2 c2 : Nat) (l2 : List Int) (w : World) (h1 : RdIn w a1 n1 c1 l1) (h2 : RdIn w a2 n2 c2 l2) :
    Calls Try.prog 5 #[.slice a1 n1 c1, .slice a2 n2 c2] w fun e w' => e = .returned (.bool true) ∧ Below w.heap.size w w' := by
  obtain ⟨r1, z1, m1⟩ := h1
  obtain ⟨r2, z2, m2⟩ := h2
  unfold maxLen at m1 m2
  by_cases g1 : n1 ≤ 60
  · by_cases g2 : n2 ≤ 60
    · clear m1 m2
      cases a1 with
      | none =>
        obtain ⟨rfl, rfl⟩ := z1 rfl
        exact walkOrderN a2 n2 c2 l2 w r2 g2
      | some ad =>
        rcases Nat.eq_zero_or_pos n1 with rfl | hn
        · exact walkOrderE ad c1 a2 n2 c2 l2 w r2 g2
        · obtain ⟨b, off, e, hb, hI⟩ := r1.ints (Below.refl _ _) hn
          obtain rfl : ad = ⟨b, off, none⟩ := Option.some.inj e
          exact walkOrderS b off n1 c1 l1 a2 n2 c2 l2 w hI hb hn g1 r2 g2
    · have hd1 : decide (60 < (n1 : Int)) = false := decide_eq_false (by omega)
      have hd2 : decide (60 < (n2 : Int)) = true := decide_eq_true (by omega)
      clear r1 r2 z1 z2
      go_enter Try.func5, Try.ntmps5
      go_wp2_with fail
      refine (awake_any _).mono ?_
      rintro e w9 ⟨rfl, hb9⟩
      go_wp2
      go_ret
      exact ⟨rfl, hb9⟩
  · have hd1 : decide (60 < (n1 : Int)) = true := decide_eq_true (by omega)
    clear r1 r2 z1 z2
    go_enter Try.func5, Try.ntmps5
    go_wp2_with fail
    refine (awake_any _).mono ?_
    rintro e w9 ⟨rfl, hb9⟩
    go_wp2
    go_ret
    exact ⟨rfl, hb9⟩
end Go.Proofs.Ytpjnebkfijmkpaa.Mo
