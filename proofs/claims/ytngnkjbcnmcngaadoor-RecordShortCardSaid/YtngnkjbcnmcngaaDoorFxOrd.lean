/- Plain mathematics: bytes stand in the order of their numbers; what is written is read; what is read, written, is those bytes. -/
import Derived.Test.YtngnkjbcnmcngaaDoorFxC
import Derived.Lib.Strings
namespace Go.Proofs.YtngnkjbcnmcngaaDoor.Fx
open Go.RowKit
set_option linter.unusedVariables false
def bl (U : Nat) : Nat → List UInt8
  | 0 => []
  | w + 1 => UInt8.ofNat (U / 256 ^ w % 256) :: bl U w
theorem p256 (k : Nat) : (2 : Int) ^ (8 * k) = ((256 ^ k : Nat) : Int) := by
  rw [Int.pow_mul, Int.natCast_pow]; rfl
theorem byt_nat (U w i : Nat) : byt U w i = ((U / 256 ^ (w - 1 - i) % 256 : Nat) : Int) := by
  unfold byt; rw [p256]; rfl
theorem enc_data (U w : Nat) : (enc U w).data.toList = bl U w := by
  unfold enc; rw [strOfNums_data]
  induction w with
  | zero => rfl
  | succ w ih =>
    unfold encL at ih ⊢
    rw [List.range_succ_eq_map, List.map_cons, List.map_cons, List.map_map, List.map_map, bl, ← ih, List.map_map]
    congr 1
    · rw [byt_nat, Int.toNat_natCast]; rfl
    · apply List.map_congr_left
      intro i hi
      simp only [Function.comp, byt_nat]
      rw [show w + 1 - 1 - Nat.succ i = w - 1 - i by omega]
theorem ofNat_lt (a b : Nat) (ha : a < 256) (hb : b < 256) : decide (UInt8.ofNat a < UInt8.ofNat b) = decide (a < b) := by
  rw [Bool.eq_iff_iff]; simp only [decide_eq_true_eq, UInt8.lt_iff_toNat_lt, UInt8.toNat_ofNat']
  rw [Nat.mod_eq_of_lt (by simpa using ha), Nat.mod_eq_of_lt (by simpa using hb)]
theorem ofNat_inj (a b : Nat) (ha : a < 256) (hb : b < 256) : UInt8.ofNat a = UInt8.ofNat b ↔ a = b := by
  constructor
  · intro h
    have h2 := congrArg UInt8.toNat h
    simp only [UInt8.toNat_ofNat'] at h2
    rwa [Nat.mod_eq_of_lt (by simpa using ha), Nat.mod_eq_of_lt (by simpa using hb)] at h2
  · intro h; rw [h]
theorem mod_step (n w : Nat) : n % 256 ^ (w + 1) = n % 256 ^ w + 256 ^ w * (n / 256 ^ w % 256) := by
  rw [Nat.pow_succ, Nat.mod_mul]
theorem digit_lt {P a b x y : Nat} (hx : x < P) (hy : y < P) : (x + P * a < y + P * b) ↔ (a < b ∨ (a = b ∧ x < y)) := by
  constructor
  · intro h
    rcases Nat.lt_trichotomy a b with h1 | h1 | h1
    · exact .inl h1
    · subst h1; exact .inr ⟨rfl, by omega⟩
    · have : P * (b + 1) ≤ P * a := Nat.mul_le_mul_left P h1
      rw [Nat.mul_add] at this; omega
  · rintro (h | ⟨rfl, h⟩)
    · have : P * (a + 1) ≤ P * b := Nat.mul_le_mul_left P h
      rw [Nat.mul_add] at this; omega
    · omega
theorem digit_eq {P a b x y : Nat} (hx : x < P) (hy : y < P) : (x + P * a = y + P * b) ↔ (a = b ∧ x = y) := by
  constructor
  · intro h
    rcases Nat.lt_trichotomy a b with h1 | h1 | h1
    · have : P * (a + 1) ≤ P * b := Nat.mul_le_mul_left P h1
      rw [Nat.mul_add] at this; omega
    · subst h1; exact ⟨rfl, by omega⟩
    · have : P * (b + 1) ≤ P * a := Nat.mul_le_mul_left P h1
      rw [Nat.mul_add] at this; omega
  · rintro ⟨rfl, rfl⟩; rfl
theorem less_bl (n m w : Nat) : Op.bytesLess (bl n w) (bl m w) = decide (n % 256 ^ w < m % 256 ^ w) := by
  induction w with
  | zero => simp [bl, Op.bytesLess, Nat.mod_one]
  | succ w ih =>
    have hP : 0 < 256 ^ w := Nat.pow_pos (by omega)
    have ha := Nat.mod_lt (n / 256 ^ w) (show 256 > 0 by omega)
    have hb := Nat.mod_lt (m / 256 ^ w) (show 256 > 0 by omega)
    rw [bl, bl, Op.bytesLess, ih, ofNat_lt _ _ ha hb, mod_step, mod_step, Bool.eq_iff_iff]
    simp only [Bool.or_eq_true, Bool.and_eq_true, decide_eq_true_eq, beq_iff_eq, ofNat_inj _ _ ha hb]
    exact (digit_lt (Nat.mod_lt _ hP) (Nat.mod_lt _ hP)).symm
theorem eq_bl (n m w : Nat) : bl n w = bl m w ↔ n % 256 ^ w = m % 256 ^ w := by
  induction w with
  | zero => simp [bl, Nat.mod_one]
  | succ w ih =>
    have hP : 0 < 256 ^ w := Nat.pow_pos (by omega)
    have ha := Nat.mod_lt (n / 256 ^ w) (show 256 > 0 by omega)
    have hb := Nat.mod_lt (m / 256 ^ w) (show 256 > 0 by omega)
    rw [bl, bl, List.cons.injEq, ih, ofNat_inj _ _ ha hb, mod_step, mod_step]
    exact (digit_eq (Nat.mod_lt _ hP) (Nat.mod_lt _ hP)).symm
theorem enc_less (n m w : Nat) (hn : n < 256 ^ w) (hm : m < 256 ^ w) : Op.bytesLess (enc n w).toList (enc m w).toList = decide (n < m) := by
  rw [Lib.toList_data, Lib.toList_data, enc_data, enc_data, less_bl, Nat.mod_eq_of_lt hn, Nat.mod_eq_of_lt hm]
theorem enc_eq (n m w : Nat) (hn : n < 256 ^ w) (hm : m < 256 ^ w) : ((enc n w).toList == (enc m w).toList) = decide (n = m) := by
  rw [Lib.toList_data, Lib.toList_data, enc_data, enc_data, Bool.eq_iff_iff, beq_iff_eq, eq_bl, Nat.mod_eq_of_lt hn, Nat.mod_eq_of_lt hm, decide_eq_true_eq]
theorem bl_length (U w : Nat) : (bl U w).length = w := by induction w with
  | zero => rfl
  | succ w ih => rw [bl, List.length_cons, ih]
theorem bl_at (U w i : Nat) (h : i < w) : (bl U w).getD i 0 = UInt8.ofNat (U / 256 ^ (w - 1 - i) % 256) := by
  induction w generalizing i with
  | zero => omega
  | succ w ih =>
    cases i with
    | zero => simp [bl]
    | succ i => rw [bl, List.getD_cons_succ, ih i (by omega), show w + 1 - 1 - (i + 1) = w - 1 - i by omega]
/-- what is written at a is read -/
theorem dec_of (s : ByteArray) (a U w : Nat) (h : ∀ i, i < w → s.data.toList.getD (a + i) 0 = UInt8.ofNat (U / 256 ^ (w - 1 - i) % 256)) (k : Nat) (hk : k ≤ w) :
    dec s a k = U / 256 ^ (w - k) % 256 ^ k := by
  induction k with
  | zero => simp [dec, Nat.mod_one]
  | succ k ih =>
    rw [dec, ih (by omega), h k (by omega), UInt8.toNat_ofNat']
    have e1 : 256 ^ (w - k) = 256 ^ (w - (k + 1)) * 256 := by rw [← Nat.pow_succ]; congr 1; omega
    have e2 : w - 1 - k = w - (k + 1) := by omega
    have e3 : ∀ V : Nat, V % 256 ^ (k + 1) = V % 256 + 256 * (V / 256 % 256 ^ k) := fun V => by
      rw [show 256 ^ (k + 1) = 256 * 256 ^ k by rw [Nat.pow_succ, Nat.mul_comm], Nat.mod_mul]
    rw [e1, e2, ← Nat.div_div_eq_div_mul, e3]
    generalize U / 256 ^ (w - (k + 1)) = V
    have e4 : V % 256 % 2 ^ 8 = V % 256 := Nat.mod_eq_of_lt (by omega)
    rw [e4, Nat.mul_comm, Nat.add_comm]
theorem dec_div (s : ByteArray) (a i j : Nat) : dec s a (i + j) / 256 ^ j = dec s a i := by
  induction j with
  | zero => simp
  | succ j ih =>
    have hb := (s.data.toList.getD (a + (i + j)) 0).toNat_lt
    rw [← ih, ← Nat.add_assoc, dec, Nat.pow_succ, Nat.mul_comm (256 ^ j) 256, ← Nat.div_div_eq_div_mul]
    congr 1; omega
/-- what is read, written, is those bytes -/
theorem bl_dec (s : ByteArray) (a w : Nat) (h : a + w ≤ s.size) : bl (dec s a w) w = (s.data.toList.drop a).take w := by
  have hl : s.data.toList.length = s.size := by rw [Array.length_toList]; rfl
  apply List.ext_getElem
  · rw [bl_length, List.length_take, List.length_drop, hl]; omega
  · intro i h1 h2
    have hi : i < w := by rwa [bl_length] at h1
    have e1 : (bl (dec s a w) w)[i] = (bl (dec s a w) w).getD i 0 := by rw [List.getD_eq_getElem?_getD, List.getElem?_eq_getElem h1]; rfl
    rw [e1, bl_at _ _ _ hi, List.getElem_take, List.getElem_drop]
    have e2 := dec_div s a (i + 1) (w - 1 - i)
    rw [show i + 1 + (w - 1 - i) = w by omega] at e2
    have hb := (s.data.toList.getD (a + i) 0).toNat_lt
    rw [e2, dec, show (dec s a i * 256 + (s.data.toList.getD (a + i) 0).toNat) % 256 = (s.data.toList.getD (a + i) 0).toNat by omega, UInt8.ofNat_toNat, List.getD_eq_getElem?_getD, List.getElem?_eq_getElem (by rw [hl]; omega)]
    rfl
end Go.Proofs.YtngnkjbcnmcngaaDoor.Fx
