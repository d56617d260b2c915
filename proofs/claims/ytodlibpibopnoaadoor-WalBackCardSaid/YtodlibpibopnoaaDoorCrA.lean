/- the checksum: both programs' walks. -/
import Derived.Test.YtodlibpibopnoaaDoorFxT
import Derived.Test.YtodlibpibopnoaaDoorCrPure
import Derived.Laws.BitsAllLaws
namespace Go.Proofs.YtodlibpibopnoaaDoor.Cr
open Go.RowKit
set_option linter.unusedVariables false
open Go.Proofs.YtodlibpibopnoaaDoor.Fx
/-- the table of half bytes lies as the text lays it -/
def Tab (w : World) : Prop := ∀ i, i < 16 → w.cell? ⟨0, i, none⟩ = some (.int .u32 (tbl i))
theorem cell_lt {w : World} {a : Addr} {v : Value} (h : w.cell? a = some v) : a.block < w.heap.size := by
  rcases Nat.lt_or_ge a.block w.heap.size with h' | h'
  · exact h'
  · simp [World.cell?, Array.getElem?_eq_none h'] at h
theorem Tab.below {w w' : World} (h : Tab w) (hb : Below w.heap.size w w') : Tab w' := fun i hi => by
  rw [hb.cell (cell_lt (h i hi)), h i hi]
theorem and15 (x : Nat) (h : x < 4294967296) : bits .and .u32 (x : Int) 15 = ((x % 16 : Nat) : Int) := by
  rw [show (15 : Int) = ((15 : Nat) : Int) from rfl, u32_and_nat x 15 h (by omega), show 15 = 2 ^ 4 - 1 from rfl, Nat.and_two_pow_sub_one_eq_mod]
set_option maxHeartbeats 400000 in
theorem shiftHalf_any (x : Nat) (hx : x < 4294967296) (w : World) (ht : Tab w) :
    Calls Tryd.prog 39 #[.int .u32 x] w fun e w' => e = .returned (.int .u32 (ones 4 x : Nat)) ∧ w = w' := by
  have ha := and15 x hx
  have hm : x % 16 < 16 := Nat.mod_lt _ (by omega)
  have hc := ht (x % 16) hm
  have hl := tbl_lt (x % 16) hm
  have H : Hid (bits .xor .u32 ((x / 16 : Nat) : Int) (tbl (x % 16) : Nat) = ((ones 4 x : Nat) : Int)) := Lib.hid (by rw [u32_xor_nat _ _ (by omega) hl, half])
  clear ht
  go_enter Tryd.func39, Tryd.ntmps39
  go_wp2
  go_ret
  exact ⟨ret_int H.out, rfl⟩
def byteAt (s : ByteArray) (k : Nat) : UInt8 := s.data.toList.getD k 0
theorem byteAt_eq (s : ByteArray) (k : Nat) (h : k < s.size) : byteAt s k = s[k] := by
  unfold byteAt
  rw [List.getD_eq_getElem?_getD, List.getElem?_eq_getElem (by rw [Array.length_toList]; exact h)]
  rfl
theorem take_snoc (s : ByteArray) (k : Nat) (h : k < s.size) : s.data.toList.take (k + 1) = s.data.toList.take k ++ [s[k]] := by
  rw [List.take_succ_eq_append_getElem (by rw [Array.length_toList]; exact h)]; rfl
/-- the register behind the first k bytes -/
def regK (s : ByteArray) (k : Nat) : Nat := reg I (s.data.toList.take k)
theorem regK_lt (s : ByteArray) (k : Nat) : regK s k < 4294967296 := reg_lt _ (by decide)
theorem regK_succ (s : ByteArray) (k : Nat) (h : k < s.size) : regK s (k + 1) = ones 4 (ones 4 (regK s k ^^^ s[k].toNat)) := by
  rw [regK, take_snoc s k h, reg_snoc, ones8]; rfl
def sumS (s : ByteArray) : Nat := sum s.data.toList
theorem sumS_lt (s : ByteArray) : sumS s < 4294967296 := sum_lt _
theorem regK_full (s : ByteArray) : regK s s.size = reg I s.data.toList := by
  unfold regK; rw [List.take_of_length_le (by rw [Array.length_toList]; exact Nat.le_refl _)]
theorem byte_xor (s : ByteArray) (k : Nat) (h : k < s.size) : bits .xor .u32 (regK s k : Nat) ((s[k].toNat : Int) % 4294967296) = ((regK s k ^^^ s[k].toNat : Nat) : Int) := by
  have h3 := s[k].toNat_lt
  rw [show ((s[k].toNat : Int) % 4294967296) = (s[k].toNat : Int) by omega, u32_xor_nat _ _ (regK_lt s k) (by omega)]
theorem xor_lt (s : ByteArray) (k : Nat) (h : k < s.size) : regK s k ^^^ s[k].toNat < 4294967296 := by
  have h3 := s[k].toNat_lt
  exact Nat.xor_lt_two_pow (n := 32) (regK_lt s k) (by omega)
set_option maxHeartbeats 400000 in
theorem sum_any (s : ByteArray) (hs : s.size ≤ maxLen) (w : World) (ht : Tab w) :
    Calls Tryd.prog 27 #[.string s] w fun e w' => e = .returned (.int .i64 (sumS s : Nat)) ∧ w = w' := by
  unfold maxLen at hs
  have HT := Lib.hid ht
  clear ht
  have HF : Hid (wrap64 (bits .xor .u32 (regK s s.size : Nat) 4294967295) = ((sumS s : Nat) : Int)) := Lib.hid (by
    rw [show (4294967295 : Int) = ((4294967295 : Nat) : Int) from rfl, u32_xor_nat _ _ (regK_lt _ _) (by omega), regK_full]
    have := sumS_lt s
    unfold wrap64
    show _ = ((reg I s.data.toList ^^^ 4294967295 : Nat) : Int)
    have h2 : reg I s.data.toList ^^^ 4294967295 < 4294967296 := this
    omega)
  go_enter Tryd.func27, Tryd.ntmps27
  go_wp2
  go_loop [3, 7] (fun u i => ∃ k : Nat, k ≤ s.size ∧ i = .int .i64 k ∧ u = .int .u32 (regK s k : Nat)) (fun _ i => s.size - (intOf i).toNat)
  case atStart => exact ⟨0, Nat.zero_le _, rfl, rfl⟩
  case round =>
    obtain ⟨k, hk, rfl, rfl⟩ := hrel
    by_cases hlt : k < s.size
    · have HX := Lib.hid (byte_xor s k hlt)
      have HS := Lib.hid (regK_succ s k hlt)
      have HL := Lib.hid (xor_lt s k hlt)
      go_wp2_with fail
      rw [HX.out]
      refine (shiftHalf_any _ HL.out _ HT.out).mono ?_
      rintro e w' ⟨rfl, rfl⟩
      go_wp2_with fail
      refine (shiftHalf_any _ (ones_lt 4 HL.out) _ HT.out).mono ?_
      rintro e w' ⟨rfl, rfl⟩
      go_wp2
      go_round
      case rel => exact ⟨k + 1, by omega, by go_num, by rw [HS.out]⟩
      case measure => simp [intOf]; omega
    · obtain rfl : k = s.size := by omega
      go_wp2
      go_ret
      exact ⟨ret_int HF.out, rfl⟩
/-! the document's own answer -/
theorem ones_succ (k x : Nat) : ones (k + 1) x = one (ones k x) := by rw [ones_add]; rfl
theorem and1 (x : Nat) (h : x < 4294967296) : bits .and .u32 (x : Int) 1 = ((x % 2 : Nat) : Int) := by
  rw [show (1 : Int) = ((1 : Nat) : Int) from rfl, u32_and_nat x 1 h (by omega), show 1 = 2 ^ 1 - 1 from rfl, Nat.and_two_pow_sub_one_eq_mod]
set_option maxHeartbeats 400000 in
theorem rStep_any (x : Nat) (hx : x < 4294967296) (w : World) :
    Calls Tryd.prog 41 #[.int .u32 x] w fun e w' => e = .returned (.int .u32 (ones 4 x : Nat)) ∧ w = w' := by
  have HB : Hid (∀ k, ones k x < 4294967296) := Lib.hid fun k => ones_lt k hx
  clear hx
  go_enter Tryd.func41, Tryd.ntmps41
  go_wp2
  go_loop [0, 3] (fun u i => ∃ k : Nat, k ≤ 4 ∧ i = .int .i64 k ∧ u = .int .u32 (ones k x : Nat)) (fun _ i => 4 - (intOf i).toNat)
  case atStart => exact ⟨0, Nat.zero_le _, rfl, rfl⟩
  case round =>
    obtain ⟨k, hk, rfl, rfl⟩ := hrel
    by_cases hlt : k < 4
    · have hv := HB.out k
      by_cases h : ones k x % 2 = 1
      · have ha : bits .and .u32 ((ones k x : Nat) : Int) 1 = 1 := by rw [and1 _ hv, h]; rfl
        have HS : Hid (bits .xor .u32 ((ones k x / 2 : Nat) : Int) 3988292384 = ((ones (k + 1) x : Nat) : Int)) := Lib.hid (by
          rw [show (3988292384 : Int) = ((3988292384 : Nat) : Int) from rfl, u32_xor_nat _ _ (by omega) (by omega), ones_succ, one, if_pos h])
        go_wp2
        go_round
        case rel => exact ⟨k + 1, by omega, by go_num, by rw [← HS.out]; rfl⟩
        case measure => simp [intOf]; omega
      · have ha : bits .and .u32 ((ones k x : Nat) : Int) 1 = 0 := by rw [and1 _ hv, show ones k x % 2 = 0 by omega]; rfl
        have HS : Hid (ones k x / 2 = ones (k + 1) x) := Lib.hid (by rw [ones_succ, one, if_neg h])
        go_wp2
        go_round
        case rel => exact ⟨k + 1, by omega, by go_num, by rw [← HS.out]; rfl⟩
        case measure => simp [intOf]; omega
    · obtain rfl : k = 4 := by omega
      go_wp2
      go_ret
      exact ⟨rfl, rfl⟩
theorem not32 (x : Nat) (h : x < 4294967296) : bits .xor .u32 4294967295 (x : Int) = ((x ^^^ 4294967295 : Nat) : Int) := by
  rw [show (4294967295 : Int) = ((4294967295 : Nat) : Int) from rfl, u32_xor_nat _ _ (by omega) h, Nat.xor_comm]
set_option maxHeartbeats 400000 in
theorem rSum_any (s : ByteArray) (hs : s.size ≤ maxLen) (w : World) :
    Calls Tryd.prog 31 #[.string s] w fun e w' => e = .returned (.int .i64 (sumS s : Nat)) ∧ w = w' := by
  unfold maxLen at hs
  have HN : Hid (bits .xor .u32 IntKind.u32.max (regK s s.size : Nat) = ((sumS s : Nat) : Int)) := Lib.hid (by
    show bits .xor .u32 4294967295 _ = _
    rw [not32 _ (regK_lt _ _), regK_full]; rfl)
  have HF : Hid (wrap64 ((sumS s : Nat) : Int) = ((sumS s : Nat) : Int)) := Lib.hid (by
    have := sumS_lt s
    unfold wrap64
    omega)
  go_enter Tryd.func31, Tryd.ntmps31
  go_wp2
  go_loop [3, 7] (fun u i => ∃ k : Nat, k ≤ s.size ∧ i = .int .i64 k ∧ u = .int .u32 (regK s k : Nat)) (fun _ i => s.size - (intOf i).toNat)
  case atStart => exact ⟨0, Nat.zero_le _, rfl, rfl⟩
  case round =>
    obtain ⟨k, hk, rfl, rfl⟩ := hrel
    by_cases hlt : k < s.size
    · have HX := Lib.hid (byte_xor s k hlt)
      have HS := Lib.hid (regK_succ s k hlt)
      have HL := Lib.hid (xor_lt s k hlt)
      go_wp2_with fail
      rw [HX.out]
      refine (rStep_any _ HL.out _).mono ?_
      rintro e w' ⟨rfl, rfl⟩
      go_wp2_with fail
      refine (rStep_any _ (ones_lt 4 HL.out) _).mono ?_
      rintro e w' ⟨rfl, rfl⟩
      go_wp2
      go_round
      case rel => exact ⟨k + 1, by omega, by go_num, by rw [HS.out]⟩
      case measure => simp [intOf]; omega
    · obtain rfl : k = s.size := by omega
      go_wp2
      go_ret
      exact ⟨ret_int (by rw [HN.out, HF.out]), rfl⟩
end Go.Proofs.YtodlibpibopnoaaDoor.Cr
