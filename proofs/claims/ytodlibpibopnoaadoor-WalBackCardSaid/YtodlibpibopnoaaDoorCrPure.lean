/- Plain mathematics of layer 2: the checksum's register is a linear map of one unbounded number; so bits that are turned are told. -/
import Derived.Test.YtodlibpibopnoaaDoorFxOrd
import Derived.Laws.BitsAllLaws
namespace Go.Proofs.YtodlibpibopnoaaDoor.Cr
open Go.RowKit
set_option linter.unusedVariables false
open Go.Proofs.YtodlibpibopnoaaDoor.Fx
/-- one bit's step of the register -/
def one (x : Nat) : Nat := if x % 2 = 1 then (x / 2) ^^^ 3988292384 else x / 2
def ones : Nat → Nat → Nat
  | 0, x => x
  | k + 1, x => ones k (one x)
theorem one_xor (a b : Nat) : one (a ^^^ b) = one a ^^^ one b := by
  have h2 : (a ^^^ b) / 2 = (a / 2) ^^^ (b / 2) := Nat.xor_div_two
  have h1 : (a ^^^ b) % 2 = 1 ↔ ¬(a % 2 = 1 ↔ b % 2 = 1) := by
    rw [Nat.xor_mod_two_eq_one]
  unfold one
  rw [h2]
  by_cases ha : a % 2 = 1 <;> by_cases hb : b % 2 = 1
  · rw [if_neg (by rw [h1]; simp [ha, hb]), if_pos ha, if_pos hb]
    rw [show (a / 2 ^^^ 3988292384) ^^^ (b / 2 ^^^ 3988292384) = (a / 2 ^^^ b / 2) ^^^ (3988292384 ^^^ 3988292384) by ac_rfl, Nat.xor_self, Nat.xor_zero]
  · rw [if_pos (by rw [h1]; simp [ha, hb]), if_pos ha, if_neg hb]; ac_rfl
  · rw [if_pos (by rw [h1]; simp [ha, hb]), if_neg ha, if_pos hb]; ac_rfl
  · rw [if_neg (by rw [h1]; simp [ha, hb]), if_neg ha, if_neg hb]
theorem ones_xor (k a b : Nat) : ones k (a ^^^ b) = ones k a ^^^ ones k b := by
  induction k generalizing a b with
  | zero => rfl
  | succ k ih => rw [ones, one_xor, ih]; rfl
theorem ones_add (k j x : Nat) : ones (k + j) x = ones j (ones k x) := by
  induction k generalizing x with
  | zero => rw [Nat.zero_add]; rfl
  | succ k ih => rw [Nat.succ_add, ones, ih]; rfl
theorem ones_mul (k x : Nat) : ones k (2 ^ k * x) = x := by
  induction k generalizing x with
  | zero => simp [ones]
  | succ k ih =>
    have e : one (2 ^ (k + 1) * x) = 2 ^ k * x := by
      unfold one
      rw [show 2 ^ (k + 1) * x = 2 * (2 ^ k * x) by rw [Nat.pow_succ]; ac_rfl]
      rw [if_neg (by omega)]; omega
    rw [ones, e, ih]
theorem ones_zero (k : Nat) : ones k 0 = 0 := by
  induction k with
  | zero => rfl
  | succ k ih => rw [ones]; exact ih
theorem one_lt {x : Nat} (h : x < 4294967296) : one x < 4294967296 := by
  unfold one
  split
  · exact Nat.xor_lt_two_pow (n := 32) (by omega) (by omega)
  · omega
theorem ones_lt {x : Nat} (k : Nat) (h : x < 4294967296) : ones k x < 4294967296 := by
  induction k generalizing x with
  | zero => exact h
  | succ k ih => rw [ones]; exact ih (one_lt h)
theorem one_eq_zero {x : Nat} (h : x < 4294967296) (h0 : one x = 0) : x = 0 := by
  unfold one at h0
  split at h0
  · have e : x / 2 = 3988292384 := by
      have := congrArg (· ^^^ 3988292384) h0
      simpa only [Nat.xor_assoc, Nat.xor_self, Nat.xor_zero, Nat.zero_xor] using this
    omega
  · omega
theorem ones_eq_zero {x : Nat} (k : Nat) (h : x < 4294967296) (h0 : ones k x = 0) : x = 0 := by
  induction k generalizing x with
  | zero => exact h0
  | succ k ih => rw [ones] at h0; exact one_eq_zero h (ih (one_lt h) h0)
/-- a number below 2^k beside a multiple of 2^k -/
theorem join (k a b : Nat) (h : b < 2 ^ k) : 2 ^ k * a + b = 2 ^ k * a ^^^ b := by
  apply Nat.eq_of_testBit_eq
  intro j
  rw [Nat.testBit_two_pow_mul_add a h, Nat.testBit_xor, Nat.testBit_two_pow_mul]
  by_cases hj : j < k
  · simp [hj, show ¬ k ≤ j by omega]
  · have : b.testBit j = false := Nat.testBit_lt_two_pow (Nat.lt_of_lt_of_le h (Nat.pow_le_pow_right (by omega) (by omega)))
    simp [hj, this, show k ≤ j by omega]
/-- the checksums of half bytes -/
def tab : List Int := [0, 498536548, 997073096, 651767980, 1994146192, 1802195444, 1303535960, 1342533948, 3988292384, 4027552580, 3604390888, 3412177804, 2607071920, 2262029012, 2685067896, 3183342108]
def tbl (i : Nat) : Nat := ones 4 i
theorem tab_at (i : Nat) (h : i < 16) : tab.getD i 0 = (tbl i : Int) := by
  have : ∀ i : Fin 16, tab.getD i.val 0 = (tbl i.val : Int) := by decide +kernel
  exact this ⟨i, h⟩
theorem tbl_lt (i : Nat) (h : i < 16) : tbl i < 4294967296 := ones_lt 4 (by omega)
theorem half (x : Nat) : x / 16 ^^^ tbl (x % 16) = ones 4 x := by
  have e : x = 2 ^ 4 * (x / 16) ^^^ x % 16 := by rw [← join 4 _ _ (by omega)]; omega
  conv => rhs; rw [e, ones_xor, ones_mul]
  rfl
/-- the register behind the bytes l -/
def reg (r : Nat) (l : List UInt8) : Nat := l.foldl (fun r b => ones 8 (r ^^^ b.toNat)) r
theorem reg_append (r : Nat) (l m : List UInt8) : reg r (l ++ m) = reg (reg r l) m := List.foldl_append ..
theorem reg_snoc (r : Nat) (l : List UInt8) (b : UInt8) : reg r (l ++ [b]) = ones 8 (reg r l ^^^ b.toNat) := by rw [reg_append]; rfl
theorem ones8 (x : Nat) : ones 4 (ones 4 x) = ones 8 x := (ones_add 4 4 x).symm
theorem step_lt {r : Nat} (b : UInt8) (h : r < 4294967296) : ones 8 (r ^^^ b.toNat) < 4294967296 := by
  have := b.toNat_lt
  exact ones_lt 8 (Nat.xor_lt_two_pow (n := 32) (by omega) (by omega))
theorem reg_lt {r : Nat} (l : List UInt8) (h : r < 4294967296) : reg r l < 4294967296 := by
  induction l generalizing r with
  | nil => exact h
  | cons b l ih => exact ih (step_lt b h)
/-- the bytes l as one number, the first one lowest -/
def num : List UInt8 → Nat
  | [] => 0
  | b :: l => b.toNat ^^^ 2 ^ 8 * num l
theorem reg_num (r : Nat) (l : List UInt8) : reg r l = ones (8 * l.length) (r ^^^ num l) := by
  induction l generalizing r with
  | nil => simp [reg, num, ones]
  | cons b l ih =>
    show reg (ones 8 (r ^^^ b.toNat)) l = _
    rw [ih, List.length_cons, show 8 * (l.length + 1) = 8 + 8 * l.length by omega, ones_add, num, ← Nat.xor_assoc, ones_xor 8 _ (2 ^ 8 * num l), ones_mul]
def I : Nat := 4294967295
def sum (l : List UInt8) : Nat := reg I l ^^^ I
theorem sum_lt (l : List UInt8) : sum l < 4294967296 := Nat.xor_lt_two_pow (n := 32) (reg_lt l (by decide)) (by decide)
theorem two_mul_xor (k a b : Nat) : 2 ^ k * (a ^^^ b) = 2 ^ k * a ^^^ 2 ^ k * b := by
  apply Nat.eq_of_testBit_eq
  intro j
  rw [Nat.testBit_xor, Nat.testBit_two_pow_mul, Nat.testBit_two_pow_mul, Nat.testBit_two_pow_mul, Nat.testBit_xor]
  by_cases h : k ≤ j <;> simp [h]
theorem num_append (l m : List UInt8) : num (l ++ m) = num l ^^^ 2 ^ (8 * l.length) * num m := by
  induction l with
  | nil => simp [num]
  | cons b l ih =>
    rw [List.cons_append, num, ih, two_mul_xor, num, List.length_cons, ← Nat.xor_assoc]
    congr 1
    rw [← Nat.mul_assoc, ← Nat.pow_add, show 8 + 8 * l.length = 8 * (l.length + 1) by omega]
/-- the sum's four bytes, the lowest first -/
def le4 (v : Nat) : List UInt8 := [UInt8.ofNat (v % 256), UInt8.ofNat (v / 256 % 256), UInt8.ofNat (v / 65536 % 256), UInt8.ofNat (v / 16777216 % 256)]
theorem le4_num (v : Nat) (h : v < 4294967296) : num (le4 v) = v := by
  have e : ∀ x : Nat, (UInt8.ofNat (x % 256)).toNat = x % 256 := fun x => by rw [UInt8.toNat_ofNat']; omega
  simp only [le4, num, e, Nat.mul_zero, Nat.xor_zero]
  rw [Nat.xor_comm (v / 65536 % 256), ← join 8 _ _ (by omega), Nat.xor_comm (v / 256 % 256), ← join 8 _ _ (by omega), Nat.xor_comm (v % 256), ← join 8 _ _ (by omega)]
  omega
/-- four bytes are those of just one number -/
theorem num4_inj {l m : List UInt8} (hl : l.length = m.length) (h : num l = num m) : l = m := by
  induction l generalizing m with
  | nil => cases m with
    | nil => rfl
    | cons => simp at hl
  | cons b l ih => cases m with
    | nil => simp at hl
    | cons c m =>
      have hb := b.toNat_lt
      have hc := c.toNat_lt
      rw [num, num, Nat.xor_comm, ← join 8 _ _ (by omega), Nat.xor_comm, ← join 8 _ _ (by omega)] at h
      have h1 : b.toNat = c.toNat := by omega
      have h2 : num l = num m := by omega
      rw [ih (by simpa using hl) h2, UInt8.toNat_inj.1 h1]
/-- the sum stands behind the bytes l just where the register behind all of it is the start's -/
theorem sum_check (l m : List UInt8) (hm : m.length = 4) : m = le4 (sum l) ↔ ones (8 * l.length) (I ^^^ num (l ++ m)) = I := by
  rw [num_append, ← Nat.xor_assoc, ones_xor, ones_mul, ← reg_num]
  constructor
  · intro h
    rw [h, le4_num _ (sum_lt l)]
    unfold sum
    rw [← Nat.xor_assoc, Nat.xor_self, Nat.zero_xor]
  · intro h
    apply num4_inj (by rw [hm]; rfl)
    rw [le4_num _ (sum_lt l)]
    have e := congrArg (reg I l ^^^ ·) h
    simp only [← Nat.xor_assoc, Nat.xor_self, Nat.zero_xor] at e
    exact e
/-- bits that are turned within 32 neighbouring ones are told -/
theorem turned (l m l' m' : List UInt8) (hm : m.length = 4) (hl : l'.length = l.length) (hm' : m'.length = 4) (first bits : Nat) (hf : first ≤ 8 * l.length) (hb : bits < 4294967296) (hb0 : bits ≠ 0)
    (h : m = le4 (sum l)) (hx : num (l' ++ m') = num (l ++ m) ^^^ 2 ^ first * bits) : m' ≠ le4 (sum l') := by
  intro h'
  rw [sum_check l m hm] at h
  rw [sum_check l' m' hm', hl, hx, ← Nat.xor_assoc, ones_xor, h] at h'
  have e : ones (8 * l.length) (2 ^ first * bits) = 0 := by
    have := congrArg (I ^^^ ·) h'
    simpa only [← Nat.xor_assoc, Nat.xor_self, Nat.zero_xor] using this
  rw [show 8 * l.length = first + (8 * l.length - first) by omega, ones_add, ones_mul] at e
  exact hb0 (ones_eq_zero _ hb e)
/-- the exclusive or of three texts -/
def xor3 : List UInt8 → List UInt8 → List UInt8 → List UInt8
  | a :: l, b :: m, c :: n => (a ^^^ b ^^^ c) :: xor3 l m n
  | _, _, _ => []
theorem reg_xor3 (a b c : List UInt8) (h1 : a.length = b.length) (h2 : b.length = c.length) (p q r : Nat) : reg (p ^^^ q ^^^ r) (xor3 a b c) = reg p a ^^^ reg q b ^^^ reg r c := by
  induction a generalizing b c p q r with
  | nil =>
    cases b with
    | nil => cases c with
      | nil => rfl
      | cons => simp at h2
    | cons => simp at h1
  | cons x a ih =>
    cases b with
    | nil => simp at h1
    | cons y b => cases c with
      | nil => simp at h2
      | cons z c =>
        show reg (ones 8 (p ^^^ q ^^^ r ^^^ (x ^^^ y ^^^ z).toNat)) (xor3 a b c) = _
        rw [UInt8.toNat_xor, UInt8.toNat_xor, show p ^^^ q ^^^ r ^^^ (x.toNat ^^^ y.toNat ^^^ z.toNat) = (p ^^^ x.toNat) ^^^ (q ^^^ y.toNat) ^^^ (r ^^^ z.toNat) by ac_rfl, ones_xor, ones_xor]
        exact ih b c (by simpa using h1) (by simpa using h2) _ _ _
theorem sum_xor3 (a b c : List UInt8) (h1 : a.length = b.length) (h2 : b.length = c.length) : sum (xor3 a b c) = sum a ^^^ sum b ^^^ sum c := by
  have h := reg_xor3 a b c h1 h2 I I I
  rw [show I ^^^ I ^^^ I = I by decide] at h
  unfold sum
  rw [h]
  have e : ∀ x y z : Nat, x ^^^ I ^^^ (y ^^^ I) ^^^ (z ^^^ I) = x ^^^ y ^^^ z ^^^ I := fun x y z => by
    rw [show x ^^^ I ^^^ (y ^^^ I) ^^^ (z ^^^ I) = x ^^^ y ^^^ z ^^^ (I ^^^ I ^^^ I) by ac_rfl]; rfl
  rw [e]
end Go.Proofs.YtodlibpibopnoaaDoor.Cr
