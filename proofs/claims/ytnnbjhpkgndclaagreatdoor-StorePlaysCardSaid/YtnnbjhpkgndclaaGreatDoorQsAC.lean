/- Plain mathematics of layer 1: bytes, most significant first, and what they are read as. -/
import Derived.Test.YtnnbjhpkgndclaaGreatDoorQsZZ
import Derived.WalkKit
import Derived.Laws.BytesArg
import Derived.Laws.ShiftsVarLaws
import Derived.Lib.Strings
set_option linter.unusedVariables false
namespace Go.Proofs.YtnnbjhpkgndclaaGreatDoor.Fx
open Go.RowKit
theorem nx {a b c : World} (h : Below a.heap.size a b) (k : Below b.heap.size b c) : Below a.heap.size a c := h.trans (k.mono h.size)
theorem nd {a b : World} (h : Below a.drew.heap.size a.drew b) : Below a.heap.size a b := nx ((Below.refl a.heap.size a).drew) h
def byt (U : Int) (w i : Nat) : Int := U / 2 ^ (8 * (w - 1 - i)) % 256
def encL (U : Int) (w : Nat) : List Int := (List.range w).map (byt U w)
def enc (U : Int) (w : Nat) : ByteArray := strOfNums (encL U w)
def arr (U : Int) (w k : Nat) : Array Value := ((List.range w).map fun i => if i < k then Value.int .u8 (byt U w i) else Value.int .u8 0).toArray
theorem arr_zero (U : Int) (w : Nat) : madeCells #[Value.int .u8 0] w = arr U w 0 := by
  apply Array.ext'
  simp [madeCells,arr]
  intro i hi
  rw [Nat.mod_one];rfl
theorem arr_succ (U : Int) (w k : Nat) : (arr U w k).setIfInBounds k (.int .u8 (byt U w k)) = arr U w (k + 1) := by
  apply Array.ext'
  unfold arr
  rw [Array.toList_setIfInBounds]
  apply List.ext_getElem
  · simp
  · intro i h1 h2
    simp at h1 h2
    rw [List.getElem_set]
    by_cases h : k = i
    · subst h;simp
    · simp [h]
      by_cases h3 : i < k
      · simp [h3,show i < k + 1 by omega]
      · simp [h3,show ¬ i < k + 1 by omega]
theorem arr_getD (U : Int) (w i : Nat) (h : i < w) : (arr U w w)[i]? = some (.int .u8 ((encL U w).getD i 0)) := by
  simp [arr,encL,h]
theorem arr_at (U : Int) (w k : Nat) (h : k < w) : (arr U w k)[k]? = some (.int .u8 0) := by
  simp [arr,h]
def arrR (U : Int) (w k : Nat) : Array Value := ((List.range w).map fun i => if w ≤ i + k then Value.int .u8 (byt U w i) else Value.int .u8 0).toArray
theorem arrR_zero (U : Int) (w : Nat) : arr U w 0 = arrR U w 0 := by
  apply Array.ext'
  unfold arr arrR
  simp only [List.map_inj_left]
  intro i hi
  have := List.mem_range.1 hi
  simp [show ¬ w ≤ i by omega]
theorem arrR_full (U : Int) (w : Nat) : arrR U w w = arr U w w := by
  apply Array.ext'
  unfold arr arrR
  simp only [List.map_inj_left]
  intro i hi
  have := List.mem_range.1 hi
  simp [this]
theorem arrR_at (U : Int) (w k : Nat) (h : k < w) : (arrR U w k)[w - 1 - k]? = some (.int .u8 0) := by
  simp [arrR,show w - 1 - k < w by omega,show ¬ w ≤ w - 1 - k + k by omega]
theorem arrR_succ (U : Int) (w k : Nat) (h : k < w) : (arrR U w k).setIfInBounds (w - 1 - k) (.int .u8 (U / 2 ^ (8 * k) % 256)) = arrR U w (k + 1) := by
  have hb : byt U w (w - 1 - k) = U / 2 ^ (8 * k) % 256 := by unfold byt;rw [show w - 1 - (w - 1 - k) = k by omega]
  rw [← hb]
  apply Array.ext'
  unfold arrR
  rw [Array.toList_setIfInBounds]
  apply List.ext_getElem
  · simp
  · intro i h1 h2
    simp at h1 h2
    rw [List.getElem_set]
    by_cases h' : w - 1 - k = i
    · subst h';simp [show w ≤ w - 1 - k + (k + 1) by omega]
    · simp [h']
      by_cases h3 : w ≤ i + k
      · simp [h3,show w ≤ i + (k + 1) by omega]
      · simp [h3,show ¬ w ≤ i + (k + 1) by omega]
theorem encL_length (U : Int) (w : Nat) : (encL U w).length = w := by simp [encL]
theorem enc_size (U : Int) (w : Nat) : (enc U w).size = w := by simp [enc,strOfNums_size,encL_length]
def dec (s : ByteArray) (a : Nat) : Nat → Nat
  | 0 => 0
  | k + 1 => dec s a k * 256 + (s.data.toList.getD (a + k) 0).toNat
theorem dec_lt (s : ByteArray) (a k : Nat) : dec s a k < 256 ^ k := by
  induction k with
  | zero => simp [dec]
  | succ k ih =>
    have h := (s.data.toList.getD (a + k) 0).toNat_lt
    rw [dec,Nat.pow_succ]
    omega
theorem dec_succ (s : ByteArray) (a k : Nat) (h : a + k < s.size) : dec s a (k + 1) = dec s a k * 256 + (s[a + k]).toNat := by
  rw [dec]
  have e : s.data.toList.getD (a + k) 0 = s[a + k] := by
    rw [List.getD_eq_getElem?_getD,List.getElem?_eq_getElem (by rw [Array.length_toList];exact h)]
    rfl
  rw [e]
theorem pow256_le (k j : Nat) (h : k ≤ j) : 256 ^ k ≤ 256 ^ j := Nat.pow_le_pow_right (by omega) h
theorem or64 (x y : Int) (hx : 0 ≤ x) (hm : x % 256 = 0) (hx1 : x < 18446744073709551616) (hy : 0 ≤ y) (hy1 : y < 256) : bits .or .u64 x y = x + y :=
  bits_join .u64 64 (by decide) (fun n h0 h1 => by rw [IntKind.wrap_u64];omega) 8 x y hx hm (by omega) hy (by omega) (by omega)
theorem ori64 (x y : Int) (hx : 0 ≤ x) (hm : x % 256 = 0) (hx1 : x < 9223372036854775808) (hy : 0 ≤ y) (hy1 : y < 256) : bits .or .i64 x y = x + y :=
  bits_join .i64 63 (by decide) (fun n h0 h1 => by rw [IntKind.wrap_i64];omega) 8 x y hx hm (by omega) hy (by omega) (by omega)
theorem dec_step (s : ByteArray) (a k : Nat) (hk : k < 8) (h : a + k < s.size) :
    bits .or .u64 (IntKind.u64.wrap ((dec s a k : Int) * 256)) (IntKind.u64.wrap (s[a + k].toNat : Int)) = (dec s a (k + 1) : Int) := by
  have h1 := dec_lt s a k
  have h2 := pow256_le k 7 (by omega)
  have h3 := s[a + k].toNat_lt
  have h4 : (256 : Nat) ^ 7 = 72057594037927936 := by decide
  rw [dec_succ s a k h,IntKind.wrap_u64,IntKind.wrap_u64,or64 _ _ (by omega) (by omega) (by omega) (by omega) (by omega)]
  omega
theorem dec_stepi (s : ByteArray) (a k : Nat) (hk : k < 7) (h : a + k < s.size) :
    bits .or .i64 ((dec s a k : Int) * 256) (wrap64 (s[a + k].toNat : Int)) = (dec s a (k + 1) : Int) := by
  have h1 := dec_lt s a k
  have h2 := pow256_le k 6 (by omega)
  have h3 := s[a + k].toNat_lt
  have h4 : (256 : Nat) ^ 6 = 281474976710656 := by decide
  have h5 : wrap64 (s[a + k].toNat : Int) = (s[a + k].toNat : Int) := by unfold wrap64;omega
  rw [h5,dec_succ s a k h,ori64 _ _ (by omega) (by omega) (by omega) (by omega) (by omega)]
  omega
def bl (U : Nat) : Nat → List UInt8
  | 0 => []
  | w + 1 => UInt8.ofNat (U / 256 ^ w % 256) :: bl U w
theorem p256 (k : Nat) : (2 : Int) ^ (8 * k) = ((256 ^ k : Nat) : Int) := by
  rw [Int.pow_mul,Int.natCast_pow];rfl
theorem byt_nat (U w i : Nat) : byt U w i = ((U / 256 ^ (w - 1 - i) % 256 : Nat) : Int) := by
  unfold byt;rw [p256];rfl
theorem enc_data (U w : Nat) : (enc U w).data.toList = bl U w := by
  unfold enc;rw [strOfNums_data]
  induction w with
  | zero => rfl
  | succ w ih =>
    unfold encL at ih ⊢
    rw [List.range_succ_eq_map,List.map_cons,List.map_cons,List.map_map,List.map_map,bl,← ih,List.map_map]
    congr 1
    · rw [byt_nat,Int.toNat_natCast];rfl
    · apply List.map_congr_left
      intro i hi
      simp only [Function.comp,byt_nat]
      rw [show w + 1 - 1 - Nat.succ i = w - 1 - i by omega]
theorem bl_length (U w : Nat) : (bl U w).length = w := by induction w with
  | zero => rfl
  | succ w ih => rw [bl,List.length_cons,ih]
theorem bl_at (U w i : Nat) (h : i < w) : (bl U w).getD i 0 = UInt8.ofNat (U / 256 ^ (w - 1 - i) % 256) := by
  induction w generalizing i with
  | zero => omega
  | succ w ih =>
    cases i with
    | zero => simp [bl]
    | succ i => rw [bl,List.getD_cons_succ,ih i (by omega),show w + 1 - 1 - (i + 1) = w - 1 - i by omega]
theorem dec_of (s : ByteArray) (a U w : Nat) (h : ∀ i,i < w → s.data.toList.getD (a + i) 0 = UInt8.ofNat (U / 256 ^ (w - 1 - i) % 256)) (k : Nat) (hk : k ≤ w) :
    dec s a k = U / 256 ^ (w - k) % 256 ^ k := by
  induction k with
  | zero => simp [dec,Nat.mod_one]
  | succ k ih =>
    rw [dec,ih (by omega),h k (by omega),UInt8.toNat_ofNat']
    have e1 : 256 ^ (w - k) = 256 ^ (w - (k + 1)) * 256 := by rw [← Nat.pow_succ];congr 1;omega
    have e2 : w - 1 - k = w - (k + 1) := by omega
    have e3 : ∀ V : Nat,V % 256 ^ (k + 1) = V % 256 + 256 * (V / 256 % 256 ^ k) := fun V => by
      rw [show 256 ^ (k + 1) = 256 * 256 ^ k by rw [Nat.pow_succ,Nat.mul_comm],Nat.mod_mul]
    rw [e1,e2,← Nat.div_div_eq_div_mul,e3]
    generalize U / 256 ^ (w - (k + 1)) = V
    have e4 : V % 256 % 2 ^ 8 = V % 256 := Nat.mod_eq_of_lt (by omega)
    rw [e4,Nat.mul_comm,Nat.add_comm]
theorem dec_div (s : ByteArray) (a i j : Nat) : dec s a (i + j) / 256 ^ j = dec s a i := by
  induction j with
  | zero => simp
  | succ j ih =>
    have hb := (s.data.toList.getD (a + (i + j)) 0).toNat_lt
    rw [← ih,← Nat.add_assoc,dec,Nat.pow_succ,Nat.mul_comm (256 ^ j) 256,← Nat.div_div_eq_div_mul]
    congr 1;omega
theorem bl_dec (s : ByteArray) (a w : Nat) (h : a + w ≤ s.size) : bl (dec s a w) w = (s.data.toList.drop a).take w := by
  have hl : s.data.toList.length = s.size := by rw [Array.length_toList];rfl
  apply List.ext_getElem
  · rw [bl_length,List.length_take,List.length_drop,hl];omega
  · intro i h1 h2
    have hi : i < w := by rwa [bl_length] at h1
    have e1 : (bl (dec s a w) w)[i] = (bl (dec s a w) w).getD i 0 := by rw [List.getD_eq_getElem?_getD,List.getElem?_eq_getElem h1];rfl
    rw [e1,bl_at _ _ _ hi,List.getElem_take,List.getElem_drop]
    have e2 := dec_div s a (i + 1) (w - 1 - i)
    rw [show i + 1 + (w - 1 - i) = w by omega] at e2
    have hb := (s.data.toList.getD (a + i) 0).toNat_lt
    rw [e2,dec,show (dec s a i * 256 + (s.data.toList.getD (a + i) 0).toNat) % 256 = (s.data.toList.getD (a + i) 0).toNat by omega,UInt8.ofNat_toNat,List.getD_eq_getElem?_getD,List.getElem?_eq_getElem (by rw [hl];omega)]
    rfl
end Go.Proofs.YtnnbjhpkgndclaaGreatDoor.Fx
