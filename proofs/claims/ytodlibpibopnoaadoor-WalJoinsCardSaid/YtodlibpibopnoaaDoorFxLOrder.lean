/- FixedOrder: bytes of one width stand in the order of their numbers. -/
import Derived.Test.YtodlibpibopnoaaDoorFxT
import Derived.Test.YtodlibpibopnoaaDoorFxOrd
namespace Go.Proofs.YtodlibpibopnoaaDoor.Fx
open Go.RowKit
set_option linter.unusedVariables false
theorem putE_zero {n x : Int} (h : putE n x = 0) : ∃ k u : Nat, x = k ∧ n = u ∧ k ≤ 7 ∧ 1 ≤ k ∧ u < 256 ^ k ∧ putS n x = enc u k := by
  have hc : (wB x && fB n x) = true := by
    cases hb : (wB x && fB n x) with
    | true => rfl
    | false => rw [putE, hb] at h; exact absurd h (by decide)
  have hc' := hc
  rw [Bool.and_eq_true] at hc
  obtain ⟨h1, h2⟩ := hc
  unfold wB at h1; unfold fB at h2
  simp only [decide_eq_true_eq] at h1 h2
  obtain ⟨k, rfl⟩ := Int.eq_ofNat_of_zero_le (show 0 ≤ x by omega)
  obtain ⟨u, rfl⟩ := Int.eq_ofNat_of_zero_le h2.1
  refine ⟨k, u, rfl, rfl, by omega, by omega, ?_, ?_⟩
  · have h3 := h2.2
    rw [Int.toNat_natCast] at h3
    have h4 : (256 : Int) ^ k = ((256 ^ k : Nat) : Int) := by rw [Int.natCast_pow]; rfl
    omega
  · rw [putS, hc', if_pos rfl]; rfl
theorem ord_less {n m x : Int} (h1 : putE n x = 0) (h2 : putE m x = 0) : Op.bytesLess (putS n x).toList (putS m x).toList = decide (n < m) := by
  obtain ⟨k, u, rfl, rfl, _, _, hu, e1⟩ := putE_zero h1
  obtain ⟨k', v, e, rfl, _, _, hv, e2⟩ := putE_zero h2
  obtain rfl : k = k' := by omega
  rw [e1, e2, enc_less u v k hu hv]; simp
theorem ord_eq {n m x : Int} (h1 : putE n x = 0) (h2 : putE m x = 0) : ((putS n x).toList == (putS m x).toList) = (n == m) := by
  obtain ⟨k, u, rfl, rfl, _, _, hu, e1⟩ := putE_zero h1
  obtain ⟨k', v, e, rfl, _, _, hv, e2⟩ := putE_zero h2
  obtain rfl : k = k' := by omega
  rw [e1, e2, enc_eq u v k hu hv, Bool.eq_iff_iff, decide_eq_true_eq, beq_iff_eq]; omega
end Go.Proofs.YtodlibpibopnoaaDoor.Fx
