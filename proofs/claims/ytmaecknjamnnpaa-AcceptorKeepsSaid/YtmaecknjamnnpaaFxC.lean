/- Plain mathematics of layer 1: bytes, most significant first, and what they are read as. -/
import Derived.WalkKit
import Derived.Laws.BytesArg
import Derived.Laws.ShiftsVarLaws
import Derived.Test.YtmaecknjamnnpaaRows
import Derived.ProofKit
import Derived.WalkLawsBesides
import Derived.WalkSpells
import Derived.Lib.Hide
import Derived.Deep.QuietTactic
import Derived.BigQuiet
import Derived.Laws.Concat
namespace Go.Proofs.Ytmaecknjamnnpaa.Fx
open Go.RowKit
set_option linter.unusedVariables false
theorem nx {a b c : World} (h : Below a.heap.size a b) (k : Below b.heap.size b c) : Below a.heap.size a c := h.trans (k.mono h.size)
theorem nd {a b : World} (h : Below a.drew.heap.size a.drew b) : Below a.heap.size a b := nx ((Below.refl a.heap.size a).drew) h
/-- byte i of w bytes of U, as an integer -/
def byt (U : Int) (w i : Nat) : Int := U / 2 ^ (8 * (w - 1 - i)) % 256
def encL (U : Int) (w : Nat) : List Int := (List.range w).map (byt U w)
def enc (U : Int) (w : Nat) : ByteArray := strOfNums (encL U w)
/-- the cells of a slice of w bytes of which the first k are written -/
def arr (U : Int) (w k : Nat) : Array Value := ((List.range w).map fun i => if i < k then Value.int .u8 (byt U w i) else Value.int .u8 0).toArray
theorem arr_zero (U : Int) (w : Nat) : madeCells #[Value.int .u8 0] w = arr U w 0 := by
  apply Array.ext'
  simp [madeCells, arr]
  intro i hi
  rw [Nat.mod_one]; rfl
theorem arr_succ (U : Int) (w k : Nat) : (arr U w k).setIfInBounds k (.int .u8 (byt U w k)) = arr U w (k + 1) := by
  apply Array.ext'
  unfold arr
  rw [Array.toList_setIfInBounds]
  apply List.ext_getElem
  · simp
  · intro i h1 h2
    simp at h1 h2
    rw [List.getElem_set]
    by_cases h : k = i
    · subst h; simp
    · simp [h]
      by_cases h3 : i < k
      · simp [h3, show i < k + 1 by omega]
      · simp [h3, show ¬ i < k + 1 by omega]
theorem arr_getD (U : Int) (w i : Nat) (h : i < w) : (arr U w w)[i]? = some (.int .u8 ((encL U w).getD i 0)) := by
  simp [arr, encL, h]
theorem arr_at (U : Int) (w k : Nat) (h : k < w) : (arr U w k)[k]? = some (.int .u8 0) := by
  simp [arr, h]
theorem arr_size (U : Int) (w k : Nat) : (arr U w k).size = w := by simp [arr]
/-- the same, written from the end -/
def arrR (U : Int) (w k : Nat) : Array Value := ((List.range w).map fun i => if w ≤ i + k then Value.int .u8 (byt U w i) else Value.int .u8 0).toArray
theorem arrR_zero (U : Int) (w : Nat) : arr U w 0 = arrR U w 0 := by
  apply Array.ext'
  unfold arr arrR
  simp only [List.map_inj_left]
  intro i hi
  have := List.mem_range.1 hi
  simp [show ¬ w ≤ i by omega]
theorem arrR_full (U : Int) (w : Nat) : arrR U w w = arr U w w := by
  apply Array.ext'
  unfold arr arrR
  simp only [List.map_inj_left]
  intro i hi
  have := List.mem_range.1 hi
  simp [this]
theorem arrR_at (U : Int) (w k : Nat) (h : k < w) : (arrR U w k)[w - 1 - k]? = some (.int .u8 0) := by
  simp [arrR, show w - 1 - k < w by omega, show ¬ w ≤ w - 1 - k + k by omega]
theorem arrR_succ (U : Int) (w k : Nat) (h : k < w) : (arrR U w k).setIfInBounds (w - 1 - k) (.int .u8 (U / 2 ^ (8 * k) % 256)) = arrR U w (k + 1) := by
  have hb : byt U w (w - 1 - k) = U / 2 ^ (8 * k) % 256 := by unfold byt; rw [show w - 1 - (w - 1 - k) = k by omega]
  rw [← hb]
  apply Array.ext'
  unfold arrR
  rw [Array.toList_setIfInBounds]
  apply List.ext_getElem
  · simp
  · intro i h1 h2
    simp at h1 h2
    rw [List.getElem_set]
    by_cases h' : w - 1 - k = i
    · subst h'; simp [show w ≤ w - 1 - k + (k + 1) by omega]
    · simp [h']
      by_cases h3 : w ≤ i + k
      · simp [h3, show w ≤ i + (k + 1) by omega]
      · simp [h3, show ¬ w ≤ i + (k + 1) by omega]
theorem encL_length (U : Int) (w : Nat) : (encL U w).length = w := by simp [encL]
theorem enc_size (U : Int) (w : Nat) : (enc U w).size = w := by simp [enc, strOfNums_size, encL_length]
/-- the number that k bytes at a are -/
def dec (s : ByteArray) (a : Nat) : Nat → Nat
  | 0 => 0
  | k + 1 => dec s a k * 256 + (s.data.toList.getD (a + k) 0).toNat
theorem dec_lt (s : ByteArray) (a k : Nat) : dec s a k < 256 ^ k := by
  induction k with
  | zero => simp [dec]
  | succ k ih =>
    have h := (s.data.toList.getD (a + k) 0).toNat_lt
    rw [dec, Nat.pow_succ]
    omega
theorem dec_succ (s : ByteArray) (a k : Nat) (h : a + k < s.size) : dec s a (k + 1) = dec s a k * 256 + (s[a + k]).toNat := by
  rw [dec]
  have e : s.data.toList.getD (a + k) 0 = s[a + k] := by
    rw [List.getD_eq_getElem?_getD, List.getElem?_eq_getElem (by rw [Array.length_toList]; exact h)]
    rfl
  rw [e]
theorem pow256_le (k j : Nat) (h : k ≤ j) : 256 ^ k ≤ 256 ^ j := Nat.pow_le_pow_right (by omega) h
theorem or64 (x y : Int) (hx : 0 ≤ x) (hm : x % 256 = 0) (hx1 : x < 18446744073709551616) (hy : 0 ≤ y) (hy1 : y < 256) : bits .or .u64 x y = x + y :=
  bits_join .u64 64 (by decide) (fun n h0 h1 => by rw [IntKind.wrap_u64]; omega) 8 x y hx hm (by omega) hy (by omega) (by omega)
theorem ori64 (x y : Int) (hx : 0 ≤ x) (hm : x % 256 = 0) (hx1 : x < 9223372036854775808) (hy : 0 ≤ y) (hy1 : y < 256) : bits .or .i64 x y = x + y :=
  bits_join .i64 63 (by decide) (fun n h0 h1 => by rw [IntKind.wrap_i64]; omega) 8 x y hx hm (by omega) hy (by omega) (by omega)
theorem dec_step (s : ByteArray) (a k : Nat) (hk : k < 8) (h : a + k < s.size) :
    bits .or .u64 (IntKind.u64.wrap ((dec s a k : Int) * 256)) (IntKind.u64.wrap (s[a + k].toNat : Int)) = (dec s a (k + 1) : Int) := by
  have h1 := dec_lt s a k
  have h2 := pow256_le k 7 (by omega)
  have h3 := s[a + k].toNat_lt
  have h4 : (256 : Nat) ^ 7 = 72057594037927936 := by decide
  rw [dec_succ s a k h, IntKind.wrap_u64, IntKind.wrap_u64, or64 _ _ (by omega) (by omega) (by omega) (by omega) (by omega)]
  omega
theorem dec_stepi (s : ByteArray) (a k : Nat) (hk : k < 7) (h : a + k < s.size) :
    bits .or .i64 ((dec s a k : Int) * 256) (wrap64 (s[a + k].toNat : Int)) = (dec s a (k + 1) : Int) := by
  have h1 := dec_lt s a k
  have h2 := pow256_le k 6 (by omega)
  have h3 := s[a + k].toNat_lt
  have h4 : (256 : Nat) ^ 6 = 281474976710656 := by decide
  have h5 : wrap64 (s[a + k].toNat : Int) = (s[a + k].toNat : Int) := by unfold wrap64; omega
  rw [h5, dec_succ s a k h, ori64 _ _ (by omega) (by omega) (by omega) (by omega) (by omega)]
  omega
end Go.Proofs.Ytmaecknjamnnpaa.Fx
/- encode and decode. -/
namespace Go.Proofs.Ytmaecknjamnnpaa.Fx
open Go.RowKit
set_option linter.unusedVariables false
theorem info5 : (Try.prog.info? 5).map (fun i => (i.zero, i.size, i.bytes)) = some (some (.int .u8 0), 1, 1) := by kernel_rfl
end Go.Proofs.Ytmaecknjamnnpaa.Fx
/- decode. -/
namespace Go.Proofs.Ytmaecknjamnnpaa.Fx
open Go.RowKit
set_option linter.unusedVariables false
end Go.Proofs.Ytmaecknjamnnpaa.Fx
/- the small functions of package fixed, and Put, Get. -/
namespace Go.Proofs.Ytmaecknjamnnpaa.Fx
open Go.RowKit
set_option linter.unusedVariables false
theorem ret_bool {a b : Bool} (h : a = b) : Ending.returned (.bool a) = .returned (.bool b) := by rw [h]
theorem ret_int {k : IntKind} {a b : Int} (h : a = b) : Ending.returned (.int k a) = .returned (.int k b) := by rw [h]
theorem ret_v {a b : Value} (h : a = b) : Ending.returned a = .returned b := by rw [h]
def wB (x : Int) : Bool := decide (1 ≤ x ∧ x ≤ 7)
def oB (s : ByteArray) (a : Int) : Bool := decide (0 ≤ a ∧ a ≤ s.size)
def fB (n x : Int) : Bool := decide (0 ≤ n ∧ n < 256 ^ x.toNat)
theorem shr_zero (n : Int) (k : Nat) (h0 : 0 ≤ n) : (n / 2 ^ (8 * k) == 0) = decide (n < 256 ^ k) := by
  have e : (2 : Int) ^ (8 * k) = 256 ^ k := by rw [Int.pow_mul]; rfl
  have hp : (0 : Int) < 256 ^ k := Int.pow_pos (by omega)
  rw [e, Bool.eq_iff_iff]
  simp
  constructor
  · intro h
    have := Int.lt_ediv_add_one_mul_self n hp
    rw [h] at this; omega
  · intro h; exact Int.ediv_eq_zero_of_lt h0 h
def putV (n x : Int) : Value := if wB x && fB n x then .tuple #[.string (enc n x.toNat), .int .i64 0] else .tuple #[.string ByteArray.empty, .int .i64 1]
theorem f_lt (n : Int) (k : Nat) (hk : k ≤ 7) (h : fB n k = true) : 0 ≤ n ∧ n < 18446744073709551616 := by
  unfold fB at h; simp at h
  have h2 := pow256_le k 7 hk
  have h4 : (256 : Nat) ^ 7 = 72057594037927936 := by decide
  have h3 : ((256 ^ k : Nat) : Int) ≤ 72057594037927936 := by omega
  rw [Int.natCast_pow] at h3
  have h5 : ((256 : Nat) : Int) ^ k = 256 ^ k := rfl
  omega
theorem u64_lt (n : Int) : 0 ≤ IntKind.u64.wrap n ∧ IntKind.u64.wrap n < 18446744073709551616 := by rw [IntKind.wrap_u64]; omega
def getV (s : ByteArray) (a x : Int) : Value :=
  if oB s a && wB x then (if x ≤ s.size - a then .tuple #[.int .i64 (dec s a.toNat x.toNat), .int .i64 0] else .tuple #[.int .i64 0, .int .i64 2]) else .tuple #[.int .i64 0, .int .i64 1]
def getIntV (s : ByteArray) (a : Int) : Value :=
  if oB s a then (if 8 ≤ s.size - a then .tuple #[.int .i64 (wrap64 (dec s a.toNat 8)), .int .i64 0] else .tuple #[.int .i64 0, .int .i64 2]) else .tuple #[.int .i64 0, .int .i64 1]
def putTextV (s : ByteArray) : Value := if s.size ≤ 4000 then .tuple #[.string (enc s.size 2 ++ s), .int .i64 0] else .tuple #[.string ByteArray.empty, .int .i64 5]
end Go.Proofs.Ytmaecknjamnnpaa.Fx
