/- math/bits: Mul64, Len64, LeadingZeros64 as the program bears them. -/
import Derived.Test.YtpjnebkfijmkpaaMoA
import Derived.Laws.MathBits
namespace Go.Proofs.Ytpjnebkfijmkpaa.Mo
open Go.RowKit
set_option linter.unusedVariables false
theorem ret2_v {k j : IntKind} {a b c d : Int} (h : a = c) (g : b = d) : Ending.returned (.tuple #[.int k a, .int j b]) = Ending.returned (.tuple #[.int k c, .int j d]) := by rw [h, g]
set_option maxHeartbeats 1600000 in
theorem mul64_any (x y : Int) (x0 : 0 ≤ x) (x1 : x < 18446744073709551616) (y0 : 0 ≤ y) (y1 : y < 18446744073709551616) (w : World) :
    Calls Try.prog 20 #[.int .u64 x, .int .u64 y] w fun e w' => e = .returned (.tuple #[.int .u64 (x * y / 18446744073709551616), .int .u64 (x * y % 18446744073709551616)]) ∧ w = w' := by
  have hx := and_low32 x x0 x1
  have hy := and_low32 y y0 y1
  go_enter Try.func20, Try.ntmps20
  go_wp2
  go_ret2
  refine ⟨ret2_v ?_ (IntKind.wrap_u64 _), rfl⟩
  simp only [IntKind.wrap_u64]
  rw [and_low32 _ (Int.emod_nonneg _ (by omega)) (Int.emod_lt_of_pos _ (by omega))]
  exact mul64_arith x y x0 x1 y0 y1
theorem ret_i {k : IntKind} {a c : Int} (h : a = c) : Ending.returned (.int k a) = Ending.returned (.int k c) := by rw [h]
theorem bl_sh (x : Int) (x0 : 0 ≤ x) (b : Nat) (h : 1 ≤ x / ((2 ^ b : Nat) : Int)) : bitLen x.toNat = b + bitLen (x / ((2 ^ b : Nat) : Int)).toNat := by
  obtain ⟨n, rfl⟩ := Int.eq_ofNat_of_zero_le x0
  rw [← Int.natCast_ediv] at h ⊢
  rw [Int.toNat_natCast, Int.toNat_natCast]
  exact bitLen_shift n b (by omega)
theorem bl_lt (x : Int) (x0 : 0 ≤ x) (h : x < 256) : bitLen x.toNat ≤ 8 := bitLen_le8 _ (by omega)
set_option maxRecDepth 100000 in
set_option maxHeartbeats 6400000 in
theorem len64_any (x : Int) (x0 : 0 ≤ x) (x1 : x < 18446744073709551616) (w : World) :
    Calls Try.prog 23 #[.int .u64 x] w fun e w' => e = .returned (.int .i64 (bitLen x.toNat)) ∧ w = w' := by
  by_cases h0 : 4294967296 ≤ x
  · have b0 := bl_sh (x) (by omega) 32 (by simp only [Nat.reducePow, Int.cast_ofNat_Int]; omega)
    rw [show (((2 ^ 32 : Nat) : Nat) : Int) = 4294967296 by rfl] at b0
    by_cases h1 : 65536 ≤ x / 4294967296
    · have b1 := bl_sh (x / 4294967296) (by omega) 16 (by simp only [Nat.reducePow, Int.cast_ofNat_Int]; omega)
      rw [show (((2 ^ 16 : Nat) : Nat) : Int) = 65536 by rfl] at b1
      by_cases h2 : 256 ≤ x / 4294967296 / 65536
      · have b2 := bl_sh (x / 4294967296 / 65536) (by omega) 8 (by simp only [Nat.reducePow, Int.cast_ofNat_Int]; omega)
        rw [show (((2 ^ 8 : Nat) : Nat) : Int) = 256 by rfl] at b2
        have H8 := Lib.hid (bl_lt (x / 4294967296 / 65536 / 256) (by omega) (by omega))
        have HB : Hid (bitLen x.toNat = 56 + bitLen (x / 4294967296 / 65536 / 256).toNat) := Lib.hid (by omega)
        go_enter Try.func23, Try.ntmps23
        go_wp2
        go_ret
        refine ⟨ret_i ?_, rfl⟩
        rw [len8tab_get]
        have a := H8.out
        have b := HB.out
        simp only [wrap64]
        omega
      · have H8 := Lib.hid (bl_lt (x / 4294967296 / 65536) (by omega) (by omega))
        have HB : Hid (bitLen x.toNat = 48 + bitLen (x / 4294967296 / 65536).toNat) := Lib.hid (by omega)
        go_enter Try.func23, Try.ntmps23
        go_wp2
        go_ret
        refine ⟨ret_i ?_, rfl⟩
        rw [len8tab_get]
        have a := H8.out
        have b := HB.out
        simp only [wrap64]
        omega
    · by_cases h2 : 256 ≤ x / 4294967296
      · have b2 := bl_sh (x / 4294967296) (by omega) 8 (by simp only [Nat.reducePow, Int.cast_ofNat_Int]; omega)
        rw [show (((2 ^ 8 : Nat) : Nat) : Int) = 256 by rfl] at b2
        have H8 := Lib.hid (bl_lt (x / 4294967296 / 256) (by omega) (by omega))
        have HB : Hid (bitLen x.toNat = 40 + bitLen (x / 4294967296 / 256).toNat) := Lib.hid (by omega)
        go_enter Try.func23, Try.ntmps23
        go_wp2
        go_ret
        refine ⟨ret_i ?_, rfl⟩
        rw [len8tab_get]
        have a := H8.out
        have b := HB.out
        simp only [wrap64]
        omega
      · have H8 := Lib.hid (bl_lt (x / 4294967296) (by omega) (by omega))
        have HB : Hid (bitLen x.toNat = 32 + bitLen (x / 4294967296).toNat) := Lib.hid (by omega)
        go_enter Try.func23, Try.ntmps23
        go_wp2
        go_ret
        refine ⟨ret_i ?_, rfl⟩
        rw [len8tab_get]
        have a := H8.out
        have b := HB.out
        simp only [wrap64]
        omega
  · by_cases h1 : 65536 ≤ x
    · have b1 := bl_sh (x) (by omega) 16 (by simp only [Nat.reducePow, Int.cast_ofNat_Int]; omega)
      rw [show (((2 ^ 16 : Nat) : Nat) : Int) = 65536 by rfl] at b1
      by_cases h2 : 256 ≤ x / 65536
      · have b2 := bl_sh (x / 65536) (by omega) 8 (by simp only [Nat.reducePow, Int.cast_ofNat_Int]; omega)
        rw [show (((2 ^ 8 : Nat) : Nat) : Int) = 256 by rfl] at b2
        have H8 := Lib.hid (bl_lt (x / 65536 / 256) (by omega) (by omega))
        have HB : Hid (bitLen x.toNat = 24 + bitLen (x / 65536 / 256).toNat) := Lib.hid (by omega)
        go_enter Try.func23, Try.ntmps23
        go_wp2
        go_ret
        refine ⟨ret_i ?_, rfl⟩
        rw [len8tab_get]
        have a := H8.out
        have b := HB.out
        simp only [wrap64]
        omega
      · have H8 := Lib.hid (bl_lt (x / 65536) (by omega) (by omega))
        have HB : Hid (bitLen x.toNat = 16 + bitLen (x / 65536).toNat) := Lib.hid (by omega)
        go_enter Try.func23, Try.ntmps23
        go_wp2
        go_ret
        refine ⟨ret_i ?_, rfl⟩
        rw [len8tab_get]
        have a := H8.out
        have b := HB.out
        simp only [wrap64]
        omega
    · by_cases h2 : 256 ≤ x
      · have b2 := bl_sh (x) (by omega) 8 (by simp only [Nat.reducePow, Int.cast_ofNat_Int]; omega)
        rw [show (((2 ^ 8 : Nat) : Nat) : Int) = 256 by rfl] at b2
        have H8 := Lib.hid (bl_lt (x / 256) (by omega) (by omega))
        have HB : Hid (bitLen x.toNat = 8 + bitLen (x / 256).toNat) := Lib.hid (by omega)
        go_enter Try.func23, Try.ntmps23
        go_wp2
        go_ret
        refine ⟨ret_i ?_, rfl⟩
        rw [len8tab_get]
        have a := H8.out
        have b := HB.out
        simp only [wrap64]
        omega
      · have H8 := Lib.hid (bl_lt (x) (by omega) (by omega))
        have HB : Hid (bitLen x.toNat = 0 + bitLen (x).toNat) := Lib.hid (by rw [Nat.zero_add])
        go_enter Try.func23, Try.ntmps23
        go_wp2
        go_ret
        refine ⟨ret_i ?_, rfl⟩
        rw [len8tab_get]
        have a := H8.out
        have b := HB.out
        simp only [wrap64]
        omega
set_option maxHeartbeats 800000 in
theorem lead64_any (x : Int) (x0 : 0 ≤ x) (x1 : x < 18446744073709551616) (w : World) :
    Calls Try.prog 22 #[.int .u64 x] w fun e w' => e = .returned (.int .i64 (wrap64 (64 - bitLen x.toNat))) ∧ w = w' := by
  go_enter Try.func22, Try.ntmps22
  go_wp2_with fail
  refine (len64_any x x0 x1 w).mono ?_
  rintro e w' ⟨rfl, rfl⟩
  go_wp2
  go_ret
  exact ⟨rfl, rfl⟩
end Go.Proofs.Ytpjnebkfijmkpaa.Mo
