/- The arithmetic under a division of 128 bits by 64, two digits of 32 bits. -/
import Derived.WalkKit
import Derived.Laws.MathBits
import Derived.Laws.BitsAllLaws
namespace Go.Proofs.Ytpjnebkfijmkpaa.Mo
open Go.RowKit
set_option linter.unusedVariables false
/-- The digit that the two loops look for. -/
structure Digit (Y a1 a0 U b T : Int) : Prop where
  hY : Y = a1 * 4294967296 + a0
  a00 : 0 ≤ a0
  a01 : a0 < 4294967296
  a10 : 2147483648 ≤ a1
  a11 : a1 < 4294967296
  u0 : 0 ≤ U
  u1 : U < Y
  b0 : 0 ≤ b
  b1 : b < 4294967296
  hT : T = (U * 4294967296 + b) / Y
theorem Digit.t0 {Y a1 a0 U b T : Int} (d : Digit Y a1 a0 U b T) : 0 ≤ T := by
  obtain ⟨hY, a00, a01, a10, a11, u0, u1, b0, b1, rfl⟩ := d
  exact Int.ediv_nonneg (by omega) (by omega)
theorem Digit.t1 {Y a1 a0 U b T : Int} (d : Digit Y a1 a0 U b T) : T < 4294967296 := by
  obtain ⟨hY, a00, a01, a10, a11, u0, u1, b0, b1, rfl⟩ := d
  exact Int.ediv_lt_of_lt_mul (by omega) (by omega)
theorem Digit.mulT {Y a1 a0 U b T : Int} (d : Digit Y a1 a0 U b T) (Q : Int) : Q * Y = Q * a1 * 4294967296 + Q * a0 := by
  rw [d.hY, Int.mul_add, Int.mul_assoc]
theorem Digit.le_iff {Y a1 a0 U b T : Int} (d : Digit Y a1 a0 U b T) (Q : Int) : Q ≤ T ↔ Q * a1 * 4294967296 + Q * a0 ≤ U * 4294967296 + b := by
  rw [← d.mulT, d.hT]
  have := d.u0; have := d.u1
  exact Int.le_ediv_iff_mul_le (by omega)
theorem Digit.start {Y a1 a0 U b T : Int} (d : Digit Y a1 a0 U b T) : T ≤ U / a1 ∧ U / a1 ≤ 4294967297 ∧ 0 ≤ U / a1 ∧ 0 ≤ U - U / a1 * a1 ∧ U - U / a1 * a1 < 4294967296 := by
  have h1 := (d.le_iff T).1 (Int.le_refl _)
  have t0 := d.t0
  obtain ⟨hY, a00, a01, a10, a11, u0, u1, b0, b1, hT⟩ := d
  have e1 := Int.mul_ediv_add_emod U a1
  have e2 := Int.emod_nonneg U (show a1 ≠ 0 by omega)
  have e3 := Int.emod_lt_of_pos U (show 0 < a1 by omega)
  rw [Int.mul_comm] at e1
  refine ⟨?_, ?_, Int.ediv_nonneg u0 (by omega), by omega, by omega⟩
  · refine (Int.le_ediv_iff_mul_le (by omega)).2 ?_
    have h2 : 0 ≤ T * a0 := Int.mul_nonneg t0 a00
    generalize T * a1 = k at *
    generalize T * a0 = m at *
    omega
  · have : U / a1 < 4294967298 := Int.ediv_lt_of_lt_mul (by omega) (by omega)
    omega
theorem Digit.stop {Y a1 a0 U b T Q R : Int} (d : Digit Y a1 a0 U b T) (hQ : T ≤ Q) (hr : Q * a1 + R = U) (h2 : Q * a0 ≤ 4294967296 * R + b) : Q = T := by
  refine Int.le_antisymm ((d.le_iff Q).2 ?_) hQ
  generalize Q * a1 = k at *
  generalize Q * a0 = m at *
  omega
theorem Digit.over {Y a1 a0 U b T Q R : Int} (d : Digit Y a1 a0 U b T) (hr : Q * a1 + R = U) (h2 : 4294967296 * R + b < Q * a0) : T < Q := by
  refine Int.not_le.1 fun h => ?_
  have := (d.le_iff Q).1 h
  generalize Q * a1 = k at *
  generalize Q * a0 = m at *
  omega
theorem Digit.brk {Y a1 a0 U b T Q R : Int} (d : Digit Y a1 a0 U b T) (hQ : T ≤ Q) (hq : Q ≤ 4294967296) (hr : Q * a1 + R = U) (h2 : 4294967296 ≤ R) : Q = T := by
  refine d.stop hQ hr ?_
  have h3 : Q * a0 ≤ 4294967296 * a0 := Int.mul_le_mul_of_nonneg_right hq d.a00
  have := d.a01; have := d.b0
  omega
theorem Digit.step {a1 U Q R : Int} (hr : Q * a1 + R = U) : (Q - 1) * a1 + (R + a1) = U := by
  rw [Int.sub_mul, Int.one_mul]; omega
theorem Digit.small {Y a1 a0 U b T Q : Int} (d : Digit Y a1 a0 U b T) (h0 : 0 ≤ Q) (h : Q < 4294967296) : 0 ≤ Q * a0 ∧ Q * a0 < 18446744073709551616 := by
  refine ⟨Int.mul_nonneg h0 d.a00, ?_⟩
  have h1 : Q * a0 ≤ 4294967295 * a0 := Int.mul_le_mul_of_nonneg_right (by omega) d.a00
  have := d.a01
  omega
/-- What is left, below the divisor. -/
theorem Digit.rest {Y a1 a0 U b T : Int} (d : Digit Y a1 a0 U b T) : U * 4294967296 + b - T * Y = (U * 4294967296 + b) % Y ∧ 0 ≤ (U * 4294967296 + b) % Y ∧ (U * 4294967296 + b) % Y < Y := by
  have hp : 0 < Y := by have := d.u0; have := d.u1; omega
  refine ⟨?_, Int.emod_nonneg _ (by omega), Int.emod_lt_of_pos _ hp⟩
  have := Int.mul_ediv_add_emod (U * 4294967296 + b) Y
  rw [← d.hT, Int.mul_comm] at this
  omega
theorem wrap_rest {U b m V : Int} (h : U * 4294967296 + b - m = V) (h0 : 0 ≤ V) (h1 : V < 18446744073709551616) :
    IntKind.u64.wrap (IntKind.u64.wrap (IntKind.u64.wrap (U * 4294967296) + b) - IntKind.u64.wrap m) = V := by
  simp only [IntKind.wrap_u64]
  omega
theorem wrap_quot {T S : Int} (t0 : 0 ≤ T) (t1 : T < 4294967296) (s0 : 0 ≤ S) (s1 : S < 4294967296) : IntKind.u64.wrap (IntKind.u64.wrap (T * 4294967296) + S) = T * 4294967296 + S := by
  simp only [IntKind.wrap_u64]
  omega
theorem two_digits {Y U b c T S : Int} (hp : 0 < Y) (hT : T = (U * 4294967296 + b) / Y) (hS : S = ((U * 4294967296 + b) % Y * 4294967296 + c) / Y) :
    (U * 18446744073709551616 + (b * 4294967296 + c)) / Y = T * 4294967296 + S := by
  have e := Int.mul_ediv_add_emod (U * 4294967296 + b) Y
  rw [← hT, Int.mul_comm] at e
  have : U * 18446744073709551616 + (b * 4294967296 + c) = ((U * 4294967296 + b) % Y * 4294967296 + c) + T * 4294967296 * Y := by
    rw [Int.mul_right_comm T 4294967296 Y]
    generalize T * Y = m at *
    omega
  rw [this, Int.add_mul_ediv_right _ _ (by omega), ← hS]
  omega
/-- The divisor shifted till its first bit stands at the top. -/
theorem lead_shift (y : Int) (y0 : 0 < y) (y1 : y < 9223372036854775808) : ∃ s : Nat, wrap64 (64 - (bitLen y.toNat : Int)) = s ∧ 1 ≤ s ∧ s ≤ 63 ∧ 9223372036854775808 ≤ y * 2 ^ s ∧ y * 2 ^ s < 18446744073709551616 := by
  obtain ⟨n, rfl⟩ := Int.eq_ofNat_of_zero_le (Int.le_of_lt y0)
  rw [Int.toNat_natCast]
  have hb := bitLen_spec n
  have hn : n ≠ 0 := by omega
  have h2 := hb.2 hn
  have h1 := hb.1
  have p1 : 1 ≤ bitLen n := by
    rcases Nat.eq_zero_or_pos (bitLen n) with h | h
    · rw [h] at h1; omega
    · omega
  have p2 : bitLen n ≤ 63 := by
    apply Nat.le_of_not_lt
    intro h
    have h3 : 2 ^ 63 ≤ 2 ^ (bitLen n - 1) := Nat.pow_le_pow_right (by omega) (by omega)
    have h4 : (2 : Nat) ^ 63 = 9223372036854775808 := by decide
    omega
  refine ⟨64 - bitLen n, by simp only [wrap64]; omega, by omega, by omega, ?_, ?_⟩
  · have : 2 ^ (bitLen n - 1) * 2 ^ (64 - bitLen n) ≤ n * 2 ^ (64 - bitLen n) := Nat.mul_le_mul_right _ h2
    rw [← Nat.pow_add, show bitLen n - 1 + (64 - bitLen n) = 63 by omega] at this
    have h4 : (2 : Nat) ^ 63 = 9223372036854775808 := by decide
    rw [h4] at this
    rw [show ((2 : Int) ^ (64 - bitLen n)) = ((2 ^ (64 - bitLen n) : Nat) : Int) from (Int.natCast_pow 2 _).symm, ← Int.natCast_mul]
    exact Int.ofNat_le.2 this
  · have : n * 2 ^ (64 - bitLen n) < 2 ^ bitLen n * 2 ^ (64 - bitLen n) := Nat.mul_lt_mul_of_pos_right h1 (Nat.two_pow_pos _)
    rw [← Nat.pow_add, show bitLen n + (64 - bitLen n) = 64 by omega] at this
    have h4 : (2 : Nat) ^ 64 = 18446744073709551616 := by decide
    rw [h4] at this
    rw [show ((2 : Int) ^ (64 - bitLen n)) = ((2 ^ (64 - bitLen n) : Nat) : Int) from (Int.natCast_pow 2 _).symm, ← Int.natCast_mul]
    exact Int.ofNat_lt.2 this
theorem shift_core (h l y P D : Nat) (hPD : P * D = 18446744073709551616) (hP : 0 < P) (hD : 0 < D) (hy : h < y) (l1 : l < 18446744073709551616) (hb : y * P < 18446744073709551616) (hor : l / D < P → h * P ||| l / D = h * P + l / D) :
    h * P < 18446744073709551616 ∧ l / D < 18446744073709551616 ∧ h * P ||| l / D = h * P + l / D ∧ l * P % 18446744073709551616 = l % D * P ∧ h * P + l / D < y * P ∧ l % D * P < 18446744073709551616 ∧ (h * P + l / D) * 18446744073709551616 + l % D * P = (h * 18446744073709551616 + l) * P := by
  have hhP : h * P + P ≤ y * P := by
    have : (h + 1) * P ≤ y * P := Nat.mul_le_mul_right _ (by omega)
    rwa [Nat.add_mul, Nat.one_mul] at this
  have hu : l / D < P := by
    rw [Nat.div_lt_iff_lt_mul hD, hPD]; exact l1
  have e0 := Nat.div_add_mod l D
  have hv := Nat.mod_lt l hD
  have e1 : l * P = l / D * 18446744073709551616 + l % D * P := by
    calc l * P = (D * (l / D) + l % D) * P := by rw [e0]
      _ = l / D * (P * D) + l % D * P := by
        rw [Nat.add_mul, Nat.mul_comm P D, ← Nat.mul_assoc, Nat.mul_comm D (l / D)]
      _ = _ := by rw [hPD]
  have e2 : l % D * P < 18446744073709551616 := by
    have : l % D * P < D * P := Nat.mul_lt_mul_of_pos_right hv hP
    rwa [Nat.mul_comm D, hPD] at this
  have e3 : (h * 18446744073709551616 + l) * P = h * P * 18446744073709551616 + l * P := by
    rw [Nat.add_mul, Nat.mul_right_comm h]
  refine ⟨?_, ?_, hor hu, ?_, ?_, e2, ?_⟩
  · generalize h * P = m at *; generalize y * P = n at *; omega
  · exact Nat.lt_of_le_of_lt (Nat.div_le_self _ _) l1
  · rw [e1, Nat.add_comm, Nat.add_mul_mod_self_right, Nat.mod_eq_of_lt e2]
  · generalize h * P = m at *; generalize y * P = n at *; generalize l / D = q at *; omega
  · rw [e3, e1]; generalize h * P = m at *; generalize l % D * P = n at *; generalize l / D = q at *; omega
/-- The dividend shifted as far. -/
theorem shift_both (h l y : Int) (s : Nat) (h0 : 0 ≤ h) (hy : h < y) (l0 : 0 ≤ l) (l1 : l < 18446744073709551616) (s2 : s ≤ 63) (hb : y * 2 ^ s < 18446744073709551616) :
    ∃ U L : Int, bits .or .u64 (IntKind.u64.wrap (h * 2 ^ s)) (l / 2 ^ (64 - s)) = U ∧ IntKind.u64.wrap (l * 2 ^ s) = L ∧ 0 ≤ U ∧ U < y * 2 ^ s ∧ 0 ≤ L ∧ L < 18446744073709551616 ∧ (h * 18446744073709551616 + l) / y = (U * 18446744073709551616 + L) / (y * 2 ^ s) := by
  obtain ⟨h, rfl⟩ := Int.eq_ofNat_of_zero_le h0
  obtain ⟨l, rfl⟩ := Int.eq_ofNat_of_zero_le l0
  obtain ⟨y, rfl⟩ := Int.eq_ofNat_of_zero_le (show 0 ≤ y by omega)
  have hPD : 2 ^ s * 2 ^ (64 - s) = 18446744073709551616 := by rw [← Nat.pow_add, show s + (64 - s) = 64 by omega]
  have hP : 0 < 2 ^ s := Nat.two_pow_pos s
  have hD : 0 < 2 ^ (64 - s) := Nat.two_pow_pos _
  have cP : ((2 : Int) ^ s) = ((2 ^ s : Nat) : Int) := (Int.natCast_pow 2 s).symm
  have cD : ((2 : Int) ^ (64 - s)) = ((2 ^ (64 - s) : Nat) : Int) := (Int.natCast_pow 2 (64 - s)).symm
  have hor : l / 2 ^ (64 - s) < 2 ^ s → h * 2 ^ s ||| l / 2 ^ (64 - s) = h * 2 ^ s + l / 2 ^ (64 - s) := fun hu => by
    rw [Nat.mul_comm h, ← Nat.two_pow_add_eq_or_of_lt hu]
  rw [cP] at hb ⊢
  rw [cD]
  generalize 2 ^ s = P at *
  generalize 2 ^ (64 - s) = D at *
  clear cP cD
  obtain ⟨f1, f2, f3, f4, f5, f6, f7⟩ := shift_core h l y P D hPD hP hD (by omega) (by omega) (by rw [← Int.natCast_mul] at hb; omega) hor
  refine ⟨((h * P + l / D : Nat) : Int), ((l % D * P : Nat) : Int), ?_, ?_, Int.natCast_nonneg _, ?_, Int.natCast_nonneg _, ?_, ?_⟩
  · have w1 : IntKind.u64.wrap ((h : Int) * (P : Int)) = ((h * P : Nat) : Int) := by
      rw [IntKind.wrap_u64, ← Int.natCast_mul]; exact Int.emod_eq_of_lt (Int.natCast_nonneg _) (Int.ofNat_lt.2 f1)
    rw [w1, ← Int.natCast_ediv, u64_or_nat _ _ f1 f2, f3]
  · rw [IntKind.wrap_u64, ← Int.natCast_mul, ← f4]; rfl
  · rw [← Int.natCast_mul]; exact Int.ofNat_lt.2 f5
  · exact Int.ofNat_lt.2 f6
  · have : ((h * P + l / D : Nat) : Int) * 18446744073709551616 + ((l % D * P : Nat) : Int) = ((h : Int) * 18446744073709551616 + l) * (P : Int) := by
      have g := congrArg (fun n : Nat => (n : Int)) f7
      simp only [Int.natCast_add, Int.natCast_mul, Int.cast_ofNat_Int] at g ⊢
      exact g
    rw [this, Int.mul_ediv_mul_of_pos_left _ _ (Int.ofNat_lt.2 hP)]
end Go.Proofs.Ytpjnebkfijmkpaa.Mo
