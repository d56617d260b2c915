/- encode and decode. -/
import Derived.Test.YtnnbjhpkgndclaaGreatDoorQsZZ
import Derived.Test.YtnnbjhpkgndclaaGreatDoorRows
import Derived.WalkKit
import Derived.ProofKit
import Derived.Test.YtnnbjhpkgndclaaGreatDoorQsAC
import Derived.WalkLawsBesides
import Derived.WalkSpells
import Derived.Lib.Hide
import Derived.Deep.QuietTactic
import Derived.BigQuiet
import Derived.Laws.Concat
set_option linter.unusedVariables false
namespace Go.Proofs.YtnnbjhpkgndclaaGreatDoor.Fx
open Go.RowKit
theorem info5 : (Tryz.prog.info? 5).map (fun i => (i.zero,i.size,i.bytes)) = some (some (.int .u8 0),1,1) := by kernel_rfl
theorem make_any (U : Int) (n : Nat) (hn : n ≤ 8) (w : World) :
    (Instr.makeSlice 105 (.int .i64 n) (.int .i64 n)).run Tryz.prog w = .ok (.slice (some ⟨w.heap.size,0,none⟩) n n) (w.alloc (.cells (arr U n 0) 5)) := by
  obtain ⟨i0,hi,hz0,hz1,hz2⟩ := info_parts info5
  have h := run_make (P := Tryz.prog) w 105 5 i0 (.int .u8 0) Tryz.underlying105 hi hz0 .i64 .i64 n n (by omega) (by omega) (by rw [hz2];omega) (by omega)
  rw [h,hz1,← arr_zero]
  simp [Value.cells]
theorem conv_any (U : Int) (n : Nat) (w : World) :
    (convert 105 9 (.slice (some ⟨w.heap.size,0,none⟩) n n)).run Tryz.prog (w.alloc (.cells (arr U n n) 5)) = .ok (.string (enc U n)) (w.alloc (.cells (arr U n n) 5)) :=
  run_convert_bytes_arg (P := Tryz.prog) _ 105 5 Tryz.underlying105 Tryz.underlying5 _ 0 n n (encL U n) (encL_length U n) (fun i hi => by rw [World.cell?_alloc_at _ _ _ _ rfl,Nat.zero_add];exact arr_getD U n i hi) 9 Tryz.underlying9
set_option maxHeartbeats 400000 in
theorem encode_any (U : Int) (n : Nat) (h0 : 0 ≤ U) (h1 : U < 18446744073709551616) (hn : n ≤ 8) (w : World) :
    Calls Tryz.prog 126 #[.int .u64 U,.int .i64 n] w fun e w' => e = .returned (.string (enc U n)) ∧ w.alloc (.cells (arr U n n) 5) = w' := by
  have hmk := make_any U n hn
  go_enter Tryz.func126,Tryz.ntmps126
  go_wp2
  go_loopw [10] (fun i wr => ∃ k : Nat,k ≤ n ∧ i = .int .i64 k ∧ wr = w.alloc (.cells (arr U n k) 5)) (fun i _ => n - (intOf i).toNat)
  case atStart => exact ⟨0,Nat.zero_le _,rfl,rfl⟩
  case round =>
    obtain ⟨k,hk,rfl,rfl⟩ := hrel
    by_cases hlt : k < n
    · have hc := arr_at U n k hlt
      go_wp2
      go_roundw
      case rel => exact ⟨k + 1,by omega,by go_num,by rw [← arr_succ];rfl⟩
      case measure => simp [intOf];omega
    · obtain rfl : k = n := by omega
      have hcv := conv_any U k w
      go_wp2
      go_ret
      exact ⟨rfl,rfl⟩
set_option maxHeartbeats 400000 in
theorem decode_any (s : ByteArray) (a n : Nat) (hs : s.size ≤ maxLen) (ha : a + n ≤ s.size) (hn : n ≤ 8) (w : World) :
    Calls Tryz.prog 124 #[.string s,.int .i64 a,.int .i64 n] w fun e w' => e = .returned (.int .u64 (dec s a n)) ∧ w = w' := by
  unfold maxLen at hs
  go_enter Tryz.func124,Tryz.ntmps124
  go_wp2
  go_loop [7,10] (fun u i => ∃ k : Nat,k ≤ n ∧ i = .int .i64 k ∧ u = .int .u64 (dec s a k)) (fun _ i => n - (intOf i).toNat)
  case atStart => exact ⟨0,Nat.zero_le _,rfl,rfl⟩
  case round =>
    obtain ⟨k,hk,rfl,rfl⟩ := hrel
    by_cases hlt : k < n
    · have hi : a + k < s.size := by omega
      have HS := lH (dec_step s a k (by omega) hi)
      go_wp2
      go_round
      case rel => exact ⟨k + 1,by omega,by go_num,by rw [HS.out]⟩
      case measure => simp [intOf];omega
    · obtain rfl : k = n := by omega
      go_wp2
      go_ret
      exact ⟨rfl,rfl⟩
theorem ret_bool {a b : Bool} (h : a = b) : Ending.returned (.bool a) = .returned (.bool b) := by rw [h]
theorem ret_int {k : IntKind} {a b : Int} (h : a = b) : Ending.returned (.int k a) = .returned (.int k b) := by rw [h]
theorem ret_v {a b : Value} (h : a = b) : Ending.returned a = .returned b := by rw [h]
def wB (x : Int) : Bool := decide (1 ≤ x ∧ x ≤ 7)
def oB (s : ByteArray) (a : Int) : Bool := decide (0 ≤ a ∧ a ≤ s.size)
def fB (n x : Int) : Bool := decide (0 ≤ n ∧ n < 256 ^ x.toNat)
set_option maxHeartbeats 400000 in
theorem isWidth_any (x : Int) (w : World) :
    Calls Tryz.prog 122 #[.int .i64 x] w fun e w' => e = .returned (.bool (wB x)) ∧ w = w' := by
  have H : Hid (wB x = decide (1 ≤ x ∧ x ≤ 7)) := lH rfl
  by_cases h1 : 1 ≤ x <;> by_cases h2 : x ≤ 7
  all_goals
    go_enter Tryz.func122,Tryz.ntmps122
    go_wp2
    go_ret
    exact ⟨by rw [H.out];simp [h1,h2],rfl⟩
set_option maxHeartbeats 400000 in
theorem isOffset_any (s : ByteArray) (a : Int) (hs : s.size ≤ maxLen) (w : World) :
    Calls Tryz.prog 121 #[.string s,.int .i64 a] w fun e w' => e = .returned (.bool (oB s a)) ∧ w = w' := by
  unfold maxLen at hs
  have H : Hid (oB s a = decide (0 ≤ a ∧ a ≤ s.size)) := lH rfl
  by_cases h1 : 0 ≤ a <;> by_cases h2 : a ≤ s.size
  all_goals
    go_enter Tryz.func121,Tryz.ntmps121
    go_wp2
    go_ret
    exact ⟨by rw [H.out];simp [h1,h2],rfl⟩
set_option maxHeartbeats 400000 in
theorem follow_any (s : ByteArray) (a c : Int) (hs : s.size ≤ maxLen) (ha : 0 ≤ a ∧ a ≤ s.size) (w : World) :
    Calls Tryz.prog 123 #[.string s,.int .i64 a,.int .i64 c] w fun e w' => e = .returned (.bool (decide (c ≤ s.size - a))) ∧ w = w' := by
  unfold maxLen at hs
  obtain ⟨ha1,ha2⟩ := ha
  go_enter Tryz.func123,Tryz.ntmps123
  go_wp2
  go_ret
  exact ⟨rfl,rfl⟩
theorem shr_zero (n : Int) (k : Nat) (h0 : 0 ≤ n) : (n / 2 ^ (8 * k) == 0) = decide (n < 256 ^ k) := by
  have e : (2 : Int) ^ (8 * k) = 256 ^ k := by rw [Int.pow_mul];rfl
  have hp : (0 : Int) < 256 ^ k := Int.pow_pos (by omega)
  rw [e,Bool.eq_iff_iff]
  simp
  constructor
  · intro h
    have := Int.lt_ediv_add_one_mul_self n hp
    rw [h] at this;omega
  · intro h;exact Int.ediv_eq_zero_of_lt h0 h
set_option maxHeartbeats 400000 in
theorem fits_any (n : Int) (k : Nat) (hk : 1 ≤ k ∧ k ≤ 7) (w : World) :
    Calls Tryz.prog 125 #[.int .i64 n,.int .i64 k] w fun e w' => e = .returned (.bool (fB n k)) ∧ w = w' := by
  obtain ⟨hk1,hk2⟩ := hk
  by_cases h1 : 0 ≤ n
  · have H : Hid ((n / 2 ^ (8 * k) == 0) = fB n k) := lH (by rw [shr_zero n k h1];unfold fB;simp [h1])
    go_enter Tryz.func125,Tryz.ntmps125
    go_wp2
    go_ret
    exact ⟨ret_bool H.out,rfl⟩
  · have H : Hid (fB n k = false) := lH (by unfold fB;simp [h1])
    go_enter Tryz.func125,Tryz.ntmps125
    go_wp2
    go_ret
    exact ⟨ret_bool H.out.symm,rfl⟩
def putV (n x : Int) : Value := if wB x && fB n x then .tuple #[.string (enc n x.toNat),.int .i64 0] else .tuple #[.string ByteArray.empty,.int .i64 1]
theorem f_lt (n : Int) (k : Nat) (hk : k ≤ 7) (h : fB n k = true) : 0 ≤ n ∧ n < 18446744073709551616 := by
  unfold fB at h;simp at h
  have h2 := pow256_le k 7 hk
  have h4 : (256 : Nat) ^ 7 = 72057594037927936 := by decide
  have h3 : ((256 ^ k : Nat) : Int) ≤ 72057594037927936 := by omega
  rw [Int.natCast_pow] at h3
  have h5 : ((256 : Nat) : Int) ^ k = 256 ^ k := rfl
  omega
set_option maxHeartbeats 400000 in
theorem put_any (n x : Int) (w : World) :
    Calls Tryz.prog 99 #[.int .i64 n,.int .i64 x] w fun e w' => e = .returned (putV n x) ∧ Below w.heap.size w w' := by
  by_cases h1 : wB x = true
  · have hx : 1 ≤ x ∧ x ≤ 7 := by simpa [wB] using h1
    obtain ⟨k,rfl⟩ := Int.eq_ofNat_of_zero_le (show 0 ≤ x by omega)
    by_cases h2 : fB n k = true
    · have hb := f_lt n k (by omega) h2
      obtain ⟨hb1,hb2⟩ := hb
      have H : Hid (putV n k = .tuple #[.string (enc n k),.int .i64 0]) := lH (by simp [putV,h1,h2])
      have H1 : Hid (wB k = true) := lH h1
      have H2 : Hid (fB n k = true) := lH h2
      clear h1 h2
      go_enter Tryz.func99,Tryz.ntmps99
      go_wp2_with fail
      refine (isWidth_any _ _).mono ?_
      rintro e w' ⟨rfl,rfl⟩
      rw [H1.out]
      go_wp2_with fail
      refine (fits_any _ _ ⟨by omega,by omega⟩ _).mono ?_
      rintro e w' ⟨rfl,rfl⟩
      rw [H2.out]
      go_wp2_with fail
      refine (encode_any n k (by omega) (by omega) (by omega) _).mono ?_
      rintro e w' ⟨rfl,rfl⟩
      go_wp2
      go_ret2
      exact ⟨ret_v H.out.symm,(Below.refl _ _).alloc (Nat.le_refl _) _⟩
    · have H : Hid (putV n k = .tuple #[.string ByteArray.empty,.int .i64 1]) := lH (by simp [putV,h1,h2])
      have H1 : Hid (wB k = true) := lH h1
      have H2 : Hid (fB n k = false) := lH (by simpa using h2)
      clear h1 h2
      go_enter Tryz.func99,Tryz.ntmps99
      go_wp2_with fail
      refine (isWidth_any _ _).mono ?_
      rintro e w' ⟨rfl,rfl⟩
      rw [H1.out]
      go_wp2_with fail
      refine (fits_any _ _ ⟨by omega,by omega⟩ _).mono ?_
      rintro e w' ⟨rfl,rfl⟩
      rw [H2.out]
      go_wp2_with fail
      go_ret2
      exact ⟨ret_v H.out.symm,Below.refl _ _⟩
  · have H : Hid (putV n x = .tuple #[.string ByteArray.empty,.int .i64 1]) := lH (by simp [putV,h1])
    have H1 : Hid (wB x = false) := lH (by simpa using h1)
    clear h1
    go_enter Tryz.func99,Tryz.ntmps99
    go_wp2_with fail
    refine (isWidth_any _ _).mono ?_
    rintro e w' ⟨rfl,rfl⟩
    rw [H1.out]
    go_wp2_with fail
    go_ret2
    exact ⟨ret_v H.out.symm,Below.refl _ _⟩
def getV (s : ByteArray) (a x : Int) : Value :=
  if oB s a && wB x then (if x ≤ s.size - a then .tuple #[.int .i64 (dec s a.toNat x.toNat),.int .i64 0] else .tuple #[.int .i64 0,.int .i64 2]) else .tuple #[.int .i64 0,.int .i64 1]
set_option maxHeartbeats 400000 in
theorem get_any (s : ByteArray) (a x : Int) (hs : s.size ≤ maxLen) (w : World) :
    Calls Tryz.prog 98 #[.string s,.int .i64 a,.int .i64 x] w fun e w' => e = .returned (getV s a x) ∧ w = w' := by
  by_cases h1 : oB s a = true
  · have ho : 0 ≤ a ∧ a ≤ s.size := by simpa [oB] using h1
    by_cases h2 : wB x = true
    · have hx : 1 ≤ x ∧ x ≤ 7 := by simpa [wB] using h2
      obtain ⟨k,rfl⟩ := Int.eq_ofNat_of_zero_le (show 0 ≤ x by omega)
      obtain ⟨b,rfl⟩ := Int.eq_ofNat_of_zero_le (show 0 ≤ a by omega)
      have hd := dec_lt s b k
      have hp := pow256_le k 7 (by omega)
      have h4 : (256 : Nat) ^ 7 = 72057594037927936 := by decide
      have hd1 : (dec s b k : Int) ≤ 72057594037927936 := by omega
      clear hd hp h4
      by_cases h3 : k ≤ s.size - b
      · have H : Hid (getV s b k = .tuple #[.int .i64 (dec s b k),.int .i64 0]) := lH (by unfold getV;rw [h1,h2,if_pos (by rfl),if_pos (by omega)];rfl)
        have H1 := lH h1
        have H2 := lH h2
        have H3 : Hid (decide ((k : Int) ≤ s.size - b) = true) := lH (by simp;omega)
        clear h1 h2
        go_enter Tryz.func98,Tryz.ntmps98
        go_wp2_with fail
        refine (isOffset_any s b hs _).mono ?_
        rintro e w' ⟨rfl,rfl⟩
        rw [H1.out]
        go_wp2_with fail
        refine (isWidth_any _ _).mono ?_
        rintro e w' ⟨rfl,rfl⟩
        rw [H2.out]
        go_wp2_with fail
        refine (follow_any s b k hs ho _).mono ?_
        rintro e w' ⟨rfl,rfl⟩
        rw [H3.out]
        go_wp2_with fail
        refine (decode_any s b k hs (by omega) (by omega) _).mono ?_
        rintro e w' ⟨rfl,rfl⟩
        go_wp2
        go_ret2
        exact ⟨ret_v H.out.symm,rfl⟩
      · have H : Hid (getV s b k = .tuple #[.int .i64 0,.int .i64 2]) := lH (by unfold getV;rw [h1,h2,if_pos (by rfl),if_neg (by omega)])
        have H1 := lH h1
        have H2 := lH h2
        have H3 : Hid (decide ((k : Int) ≤ s.size - b) = false) := lH (by simp;omega)
        clear h1 h2
        go_enter Tryz.func98,Tryz.ntmps98
        go_wp2_with fail
        refine (isOffset_any s b hs _).mono ?_
        rintro e w' ⟨rfl,rfl⟩
        rw [H1.out]
        go_wp2_with fail
        refine (isWidth_any _ _).mono ?_
        rintro e w' ⟨rfl,rfl⟩
        rw [H2.out]
        go_wp2_with fail
        refine (follow_any s b k hs ho _).mono ?_
        rintro e w' ⟨rfl,rfl⟩
        rw [H3.out]
        go_wp2
        go_ret2
        exact ⟨ret_v H.out.symm,rfl⟩
    · have H : Hid (getV s a x = .tuple #[.int .i64 0,.int .i64 1]) := lH (by simp [getV,h2])
      have H1 := lH h1
      have H2 : Hid (wB x = false) := lH (by simpa using h2)
      clear h1 h2
      go_enter Tryz.func98,Tryz.ntmps98
      go_wp2_with fail
      refine (isOffset_any s a hs _).mono ?_
      rintro e w' ⟨rfl,rfl⟩
      rw [H1.out]
      go_wp2_with fail
      refine (isWidth_any _ _).mono ?_
      rintro e w' ⟨rfl,rfl⟩
      rw [H2.out]
      go_wp2
      go_ret2
      exact ⟨ret_v H.out.symm,rfl⟩
  · have H : Hid (getV s a x = .tuple #[.int .i64 0,.int .i64 1]) := lH (by simp [getV,h1])
    have H1 : Hid (oB s a = false) := lH (by simpa using h1)
    clear h1
    go_enter Tryz.func98,Tryz.ntmps98
    go_wp2_with fail
    refine (isOffset_any s a hs _).mono ?_
    rintro e w' ⟨rfl,rfl⟩
    rw [H1.out]
    go_wp2
    go_ret2
    exact ⟨ret_v H.out.symm,rfl⟩
end Go.Proofs.YtnnbjhpkgndclaaGreatDoor.Fx
