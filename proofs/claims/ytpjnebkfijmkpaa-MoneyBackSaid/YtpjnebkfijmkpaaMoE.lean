/- math/bits.Div64 as the program bears it. -/
import Derived.Test.YtpjnebkfijmkpaaMoD
import Derived.Test.YtpjnebkfijmkpaaMoDiv
namespace Go.Proofs.Ytpjnebkfijmkpaa.Mo
open Go.RowKit
set_option linter.unusedVariables false
set_option maxHeartbeats 6400000 in
theorem div64_any (h l y : Int) (h0 : 0 < h) (hy : h < y) (y1 : y < 9223372036854775808) (l0 : 0 ≤ l) (l1 : l < 18446744073709551616) (w : World) :
    Calls Try.prog 21 #[.int .u64 h, .int .u64 l, .int .u64 y] w fun e w' => ∃ r, e = .returned (.tuple #[.int .u64 ((h * 18446744073709551616 + l) / y), .int .u64 r]) ∧ w = w' := by
  obtain ⟨s, hs, hs1, hs2, hY1, hY2⟩ := lead_shift y (by omega) y1
  obtain ⟨U, L, hU, hL, U0, U1, L0, L1, hq⟩ := shift_both h l y s (by omega) hy l0 l1 hs2 hY2
  have hYw : IntKind.u64.wrap (y * 2 ^ s) = y * 2 ^ s := by rw [IntKind.wrap_u64]; exact Int.emod_eq_of_lt (by omega) hY2
  rw [hq]
  clear hq
  obtain ⟨Y, hYd⟩ : ∃ Y, y * 2 ^ s = Y := ⟨_, rfl⟩
  rw [hYd] at hYw hY1 hY2 U1 ⊢
  have hYa := and_low32 Y (by omega) hY2
  have hLa := and_low32 L (by omega) L1
  obtain ⟨a1, ha1⟩ : ∃ a1, Y / 4294967296 = a1 := ⟨_, rfl⟩
  obtain ⟨a0, ha0⟩ : ∃ a0, Y % 4294967296 = a0 := ⟨_, rfl⟩
  obtain ⟨b1, hb1⟩ : ∃ b1, L / 4294967296 = b1 := ⟨_, rfl⟩
  obtain ⟨b0, hb0⟩ : ∃ b0, L % 4294967296 = b0 := ⟨_, rfl⟩
  obtain ⟨T, hT⟩ : ∃ T, T = (U * 4294967296 + b1) / Y := ⟨_, rfl⟩
  have D1 := Lib.hid (show Digit Y a1 a0 U b1 T from ⟨by omega, by omega, by omega, by omega, by omega, U0, U1, by omega, by omega, hT⟩)
  obtain ⟨V, hV⟩ : ∃ V, (U * 4294967296 + b1) % Y = V := ⟨_, rfl⟩
  obtain ⟨v0, v1, v2⟩ := D1.out.rest
  rw [hV] at v0 v1 v2
  obtain ⟨S, hS⟩ : ∃ S, S = (V * 4294967296 + b0) / Y := ⟨_, rfl⟩
  have D2 := Lib.hid (show Digit Y a1 a0 V b0 S from ⟨by omega, by omega, by omega, by omega, by omega, v1, v2, by omega, by omega, hS⟩)
  have hR := two_digits (Y := Y) (U := U) (b := b1) (c := b0) (T := T) (S := S) (by omega) hT (by rw [hV]; exact hS)
  rw [show b1 * 4294967296 + b0 = L by omega] at hR
  rw [hR]
  have hWV := Lib.hid (wrap_rest v0 v1 (by omega))
  have hWQ := Lib.hid (wrap_quot D1.out.t0 D1.out.t1 D2.out.t0 D2.out.t1)
  clear hR hT hV hS v0
  rw [ha0] at hYa
  rw [hb0] at hLa
  have c1 : 2147483648 ≤ a1 := D1.out.a10
  have e1 : (y == 0) = false := by simp; omega
  have e2 : decide (y ≤ h) = false := by simp; omega
  have e3 : (h == 0) = false := by simp; omega
  have e4 : (a1 == 0) = false := by simp; omega
  have u1 : IntKind.u64.wrap (U / a1 * a1) = U / a1 * a1 := by
    have := D1.out.start
    have := Int.mul_nonneg this.2.2.1 (show 0 ≤ a1 by omega)
    rw [IntKind.wrap_u64]; omega
  have u2 : IntKind.u64.wrap (U - U / a1 * a1) = U - U / a1 * a1 := by
    have := D1.out.start
    have := Int.mul_nonneg this.2.2.1 (show 0 ≤ a1 by omega)
    rw [IntKind.wrap_u64]; omega
  have u3 : IntKind.u64.wrap (V / a1 * a1) = V / a1 * a1 := by
    have := D2.out.start
    have := Int.mul_nonneg this.2.2.1 (show 0 ≤ a1 by omega)
    rw [IntKind.wrap_u64]; omega
  have u4 : IntKind.u64.wrap (V - V / a1 * a1) = V - V / a1 * a1 := by
    have := D2.out.start
    have := Int.mul_nonneg this.2.2.1 (show 0 ≤ a1 by omega)
    rw [IntKind.wrap_u64]; omega
  go_enter Try.func21, Try.ntmps21
  go_wp2_with fail
  refine (lead64_any y (by omega) (by omega) w).mono ?_
  rintro e w' ⟨rfl, rfl⟩
  rw [hs]
  clear hs
  go_wp2
  go_loop [15, 16] (fun q r => ∃ Q R : Int, q = .int .u64 Q ∧ r = .int .u64 R ∧ T ≤ Q ∧ Q ≤ 4294967297 ∧ 0 ≤ R ∧ R < 4294967296 ∧ Q * a1 + R = U) (fun q _ => (intOf q).toNat)
  case atStart => exact ⟨_, _, rfl, rfl, D1.out.start.1, D1.out.start.2.1, D1.out.start.2.2.2.1, D1.out.start.2.2.2.2, by omega⟩
  case round =>
    obtain ⟨Q1, R1, rfl, rfl, q01, q11, r01, r11, hr⟩ := hrel
    have HR1 := Lib.hid hr
    clear hr
    have T01 := D1.out.t0
    have T11 := D1.out.t1
    have hw11 : IntKind.u64.wrap (4294967296 * R1) = 4294967296 * R1 := by rw [IntKind.wrap_u64]; omega
    have hw21 : IntKind.u64.wrap (4294967296 * R1 + b1) = 4294967296 * R1 + b1 := by have := D1.out.b0; have := D1.out.b1; rw [IntKind.wrap_u64]; omega
    have hw41 : IntKind.u64.wrap (R1 + a1) = R1 + a1 := by have := D1.out.a10; have := D1.out.a11; rw [IntKind.wrap_u64]; omega
    by_cases hg1 : 4294967296 ≤ Q1
    · have ov : T < Q1 := by omega
      have hw3 : IntKind.u64.wrap (Q1 - 1) = Q1 - 1 := by rw [IntKind.wrap_u64]; omega
      by_cases hb : 4294967296 ≤ R1 + a1
      · have HQ1 : Hid (Q1 - 1 = T) := Lib.hid (D1.out.brk (by omega) (by omega) (Digit.step HR1.out) hb)
        have hv : IntKind.u64.wrap (IntKind.u64.wrap (IntKind.u64.wrap (U * 4294967296) + b1) - IntKind.u64.wrap ((Q1 - 1) * Y)) = V := by rw [HQ1.out]; exact hWV.out
        go_wp2
        go_loop [18, 16] (fun q r => ∃ Q R : Int, q = .int .u64 Q ∧ r = .int .u64 R ∧ S ≤ Q ∧ Q ≤ 4294967297 ∧ 0 ≤ R ∧ R < 4294967296 ∧ Q * a1 + R = V) (fun q _ => (intOf q).toNat)
        case atStart => exact ⟨_, _, rfl, rfl, D2.out.start.1, D2.out.start.2.1, D2.out.start.2.2.2.1, D2.out.start.2.2.2.2, by omega⟩
        case round =>
          obtain ⟨Q2, R2, rfl, rfl, q02, q12, r02, r12, hr⟩ := hrel
          have HR2 := Lib.hid hr
          clear hr
          have T02 := D2.out.t0
          have T12 := D2.out.t1
          have hw12 : IntKind.u64.wrap (4294967296 * R2) = 4294967296 * R2 := by rw [IntKind.wrap_u64]; omega
          have hw22 : IntKind.u64.wrap (4294967296 * R2 + b0) = 4294967296 * R2 + b0 := by have := D2.out.b0; have := D2.out.b1; rw [IntKind.wrap_u64]; omega
          have hw42 : IntKind.u64.wrap (R2 + a1) = R2 + a1 := by have := D2.out.a10; have := D2.out.a11; rw [IntKind.wrap_u64]; omega
          by_cases hg2 : 4294967296 ≤ Q2
          · have ov : S < Q2 := by omega
            have hw3 : IntKind.u64.wrap (Q2 - 1) = Q2 - 1 := by rw [IntKind.wrap_u64]; omega
            by_cases hb : 4294967296 ≤ R2 + a1
            · have HQ2 : Hid (Q2 - 1 = S) := Lib.hid (D2.out.brk (by omega) (by omega) (Digit.step HR2.out) hb)
              go_wp2
              go_ret2
              refine ⟨⟨_, ret2_v ?_ rfl⟩, rfl⟩
              have i1 := HQ1.out
              have i2 := HQ2.out
              try simp only [IntKind.wrap_u64]
              omega
            · go_wp2
              go_round
              case rel => exact ⟨Q2 - 1, R2 + a1, rfl, rfl, by omega, by omega, by have := D2.out.a10; omega, by omega, Digit.step HR2.out⟩
              case measure => simp [intOf]; omega
          · obtain ⟨m02, m12⟩ := D2.out.small (Q := Q2) (by omega) (by omega)
            have hw52 : IntKind.u64.wrap (Q2 * a0) = Q2 * a0 := by rw [IntKind.wrap_u64]; exact Int.emod_eq_of_lt m02 m12
            by_cases hk2 : 4294967296 * R2 + b0 < Q2 * a0
            · have ov : S < Q2 := D2.out.over HR2.out hk2
              have hw3 : IntKind.u64.wrap (Q2 - 1) = Q2 - 1 := by rw [IntKind.wrap_u64]; omega
              by_cases hb : 4294967296 ≤ R2 + a1
              · have HQ2 : Hid (Q2 - 1 = S) := Lib.hid (D2.out.brk (by omega) (by omega) (Digit.step HR2.out) hb)
                go_wp2
                go_ret2
                refine ⟨⟨_, ret2_v ?_ rfl⟩, rfl⟩
                have i1 := HQ1.out
                have i2 := HQ2.out
                try simp only [IntKind.wrap_u64]
                omega
              · go_wp2
                go_round
                case rel => exact ⟨Q2 - 1, R2 + a1, rfl, rfl, by omega, by omega, by have := D2.out.a10; omega, by omega, Digit.step HR2.out⟩
                case measure => simp [intOf]; omega
            · have HQ2 : Hid (Q2 = S) := Lib.hid (D2.out.stop q02 HR2.out (by omega))
              go_wp2
              go_ret2
              refine ⟨⟨_, ret2_v ?_ rfl⟩, rfl⟩
              have i1 := HQ1.out
              have i2 := HQ2.out
              try simp only [IntKind.wrap_u64]
              omega
      · go_wp2
        go_round
        case rel => exact ⟨Q1 - 1, R1 + a1, rfl, rfl, by omega, by omega, by have := D1.out.a10; omega, by omega, Digit.step HR1.out⟩
        case measure => simp [intOf]; omega
    · obtain ⟨m01, m11⟩ := D1.out.small (Q := Q1) (by omega) (by omega)
      have hw51 : IntKind.u64.wrap (Q1 * a0) = Q1 * a0 := by rw [IntKind.wrap_u64]; exact Int.emod_eq_of_lt m01 m11
      by_cases hk1 : 4294967296 * R1 + b1 < Q1 * a0
      · have ov : T < Q1 := D1.out.over HR1.out hk1
        have hw3 : IntKind.u64.wrap (Q1 - 1) = Q1 - 1 := by rw [IntKind.wrap_u64]; omega
        by_cases hb : 4294967296 ≤ R1 + a1
        · have HQ1 : Hid (Q1 - 1 = T) := Lib.hid (D1.out.brk (by omega) (by omega) (Digit.step HR1.out) hb)
          have hv : IntKind.u64.wrap (IntKind.u64.wrap (IntKind.u64.wrap (U * 4294967296) + b1) - IntKind.u64.wrap ((Q1 - 1) * Y)) = V := by rw [HQ1.out]; exact hWV.out
          go_wp2
          go_loop [18, 16] (fun q r => ∃ Q R : Int, q = .int .u64 Q ∧ r = .int .u64 R ∧ S ≤ Q ∧ Q ≤ 4294967297 ∧ 0 ≤ R ∧ R < 4294967296 ∧ Q * a1 + R = V) (fun q _ => (intOf q).toNat)
          case atStart => exact ⟨_, _, rfl, rfl, D2.out.start.1, D2.out.start.2.1, D2.out.start.2.2.2.1, D2.out.start.2.2.2.2, by omega⟩
          case round =>
            obtain ⟨Q2, R2, rfl, rfl, q02, q12, r02, r12, hr⟩ := hrel
            have HR2 := Lib.hid hr
            clear hr
            have T02 := D2.out.t0
            have T12 := D2.out.t1
            have hw12 : IntKind.u64.wrap (4294967296 * R2) = 4294967296 * R2 := by rw [IntKind.wrap_u64]; omega
            have hw22 : IntKind.u64.wrap (4294967296 * R2 + b0) = 4294967296 * R2 + b0 := by have := D2.out.b0; have := D2.out.b1; rw [IntKind.wrap_u64]; omega
            have hw42 : IntKind.u64.wrap (R2 + a1) = R2 + a1 := by have := D2.out.a10; have := D2.out.a11; rw [IntKind.wrap_u64]; omega
            by_cases hg2 : 4294967296 ≤ Q2
            · have ov : S < Q2 := by omega
              have hw3 : IntKind.u64.wrap (Q2 - 1) = Q2 - 1 := by rw [IntKind.wrap_u64]; omega
              by_cases hb : 4294967296 ≤ R2 + a1
              · have HQ2 : Hid (Q2 - 1 = S) := Lib.hid (D2.out.brk (by omega) (by omega) (Digit.step HR2.out) hb)
                go_wp2
                go_ret2
                refine ⟨⟨_, ret2_v ?_ rfl⟩, rfl⟩
                have i1 := HQ1.out
                have i2 := HQ2.out
                try simp only [IntKind.wrap_u64]
                omega
              · go_wp2
                go_round
                case rel => exact ⟨Q2 - 1, R2 + a1, rfl, rfl, by omega, by omega, by have := D2.out.a10; omega, by omega, Digit.step HR2.out⟩
                case measure => simp [intOf]; omega
            · obtain ⟨m02, m12⟩ := D2.out.small (Q := Q2) (by omega) (by omega)
              have hw52 : IntKind.u64.wrap (Q2 * a0) = Q2 * a0 := by rw [IntKind.wrap_u64]; exact Int.emod_eq_of_lt m02 m12
              by_cases hk2 : 4294967296 * R2 + b0 < Q2 * a0
              · have ov : S < Q2 := D2.out.over HR2.out hk2
                have hw3 : IntKind.u64.wrap (Q2 - 1) = Q2 - 1 := by rw [IntKind.wrap_u64]; omega
                by_cases hb : 4294967296 ≤ R2 + a1
                · have HQ2 : Hid (Q2 - 1 = S) := Lib.hid (D2.out.brk (by omega) (by omega) (Digit.step HR2.out) hb)
                  go_wp2
                  go_ret2
                  refine ⟨⟨_, ret2_v ?_ rfl⟩, rfl⟩
                  have i1 := HQ1.out
                  have i2 := HQ2.out
                  try simp only [IntKind.wrap_u64]
                  omega
                · go_wp2
                  go_round
                  case rel => exact ⟨Q2 - 1, R2 + a1, rfl, rfl, by omega, by omega, by have := D2.out.a10; omega, by omega, Digit.step HR2.out⟩
                  case measure => simp [intOf]; omega
              · have HQ2 : Hid (Q2 = S) := Lib.hid (D2.out.stop q02 HR2.out (by omega))
                go_wp2
                go_ret2
                refine ⟨⟨_, ret2_v ?_ rfl⟩, rfl⟩
                have i1 := HQ1.out
                have i2 := HQ2.out
                try simp only [IntKind.wrap_u64]
                omega
        · go_wp2
          go_round
          case rel => exact ⟨Q1 - 1, R1 + a1, rfl, rfl, by omega, by omega, by have := D1.out.a10; omega, by omega, Digit.step HR1.out⟩
          case measure => simp [intOf]; omega
      · have HQ1 : Hid (Q1 = T) := Lib.hid (D1.out.stop q01 HR1.out (by omega))
        have hv : IntKind.u64.wrap (IntKind.u64.wrap (IntKind.u64.wrap (U * 4294967296) + b1) - IntKind.u64.wrap ((Q1) * Y)) = V := by rw [HQ1.out]; exact hWV.out
        go_wp2
        go_loop [18, 16] (fun q r => ∃ Q R : Int, q = .int .u64 Q ∧ r = .int .u64 R ∧ S ≤ Q ∧ Q ≤ 4294967297 ∧ 0 ≤ R ∧ R < 4294967296 ∧ Q * a1 + R = V) (fun q _ => (intOf q).toNat)
        case atStart => exact ⟨_, _, rfl, rfl, D2.out.start.1, D2.out.start.2.1, D2.out.start.2.2.2.1, D2.out.start.2.2.2.2, by omega⟩
        case round =>
          obtain ⟨Q2, R2, rfl, rfl, q02, q12, r02, r12, hr⟩ := hrel
          have HR2 := Lib.hid hr
          clear hr
          have T02 := D2.out.t0
          have T12 := D2.out.t1
          have hw12 : IntKind.u64.wrap (4294967296 * R2) = 4294967296 * R2 := by rw [IntKind.wrap_u64]; omega
          have hw22 : IntKind.u64.wrap (4294967296 * R2 + b0) = 4294967296 * R2 + b0 := by have := D2.out.b0; have := D2.out.b1; rw [IntKind.wrap_u64]; omega
          have hw42 : IntKind.u64.wrap (R2 + a1) = R2 + a1 := by have := D2.out.a10; have := D2.out.a11; rw [IntKind.wrap_u64]; omega
          by_cases hg2 : 4294967296 ≤ Q2
          · have ov : S < Q2 := by omega
            have hw3 : IntKind.u64.wrap (Q2 - 1) = Q2 - 1 := by rw [IntKind.wrap_u64]; omega
            by_cases hb : 4294967296 ≤ R2 + a1
            · have HQ2 : Hid (Q2 - 1 = S) := Lib.hid (D2.out.brk (by omega) (by omega) (Digit.step HR2.out) hb)
              go_wp2
              go_ret2
              refine ⟨⟨_, ret2_v ?_ rfl⟩, rfl⟩
              have i1 := HQ1.out
              have i2 := HQ2.out
              try simp only [IntKind.wrap_u64]
              omega
            · go_wp2
              go_round
              case rel => exact ⟨Q2 - 1, R2 + a1, rfl, rfl, by omega, by omega, by have := D2.out.a10; omega, by omega, Digit.step HR2.out⟩
              case measure => simp [intOf]; omega
          · obtain ⟨m02, m12⟩ := D2.out.small (Q := Q2) (by omega) (by omega)
            have hw52 : IntKind.u64.wrap (Q2 * a0) = Q2 * a0 := by rw [IntKind.wrap_u64]; exact Int.emod_eq_of_lt m02 m12
            by_cases hk2 : 4294967296 * R2 + b0 < Q2 * a0
            · have ov : S < Q2 := D2.out.over HR2.out hk2
              have hw3 : IntKind.u64.wrap (Q2 - 1) = Q2 - 1 := by rw [IntKind.wrap_u64]; omega
              by_cases hb : 4294967296 ≤ R2 + a1
              · have HQ2 : Hid (Q2 - 1 = S) := Lib.hid (D2.out.brk (by omega) (by omega) (Digit.step HR2.out) hb)
                go_wp2
                go_ret2
                refine ⟨⟨_, ret2_v ?_ rfl⟩, rfl⟩
                have i1 := HQ1.out
                have i2 := HQ2.out
                try simp only [IntKind.wrap_u64]
                omega
              · go_wp2
                go_round
                case rel => exact ⟨Q2 - 1, R2 + a1, rfl, rfl, by omega, by omega, by have := D2.out.a10; omega, by omega, Digit.step HR2.out⟩
                case measure => simp [intOf]; omega
            · have HQ2 : Hid (Q2 = S) := Lib.hid (D2.out.stop q02 HR2.out (by omega))
              go_wp2
              go_ret2
              refine ⟨⟨_, ret2_v ?_ rfl⟩, rfl⟩
              have i1 := HQ1.out
              have i2 := HQ2.out
              try simp only [IntKind.wrap_u64]
              omega
end Go.Proofs.Ytpjnebkfijmkpaa.Mo
