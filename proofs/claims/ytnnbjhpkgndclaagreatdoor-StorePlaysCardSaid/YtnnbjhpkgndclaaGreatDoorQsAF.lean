/- the document's own answers of layer 1: GetInt, PutText, GetText. -/
import Derived.Test.YtnnbjhpkgndclaaGreatDoorQsZZ
import Derived.Test.YtnnbjhpkgndclaaGreatDoorQsAE
import Derived.Test.YtnnbjhpkgndclaaGreatDoorQsAC
import Derived.Laws.BitsAllLaws
import Derived.Laws.BytesArg
import Derived.Laws.Concat
import Derived.Deep.RegionHeld3
import Derived.IntWalk
import Derived.OpenShut
import Derived.Lib.Strings
import Derived.Test.YtnnbjhpkgndclaaGreatDoorRows
import Derived.LaidMore
import Derived.Lib.LaidTab
import Derived.Stop.Joined
set_option linter.unusedVariables false
namespace Go.Proofs.YtnnbjhpkgndclaaGreatDoor.Fx
open Go.RowKit
theorem putV_len (s : ByteArray) (h : s.size ≤ 4000) : putV s.size 2 = .tuple #[.string (enc s.size 2),.int .i64 0] := by
  have h1 : fB s.size 2 = true := by simp [fB];omega
  unfold putV;rw [w2,h1];rfl
theorem rPutLen_any (s : ByteArray) (h : s.size ≤ 4000) (w : World) :
    Calls Tryz.prog 58 #[.int .i64 s.size,.int .i64 2] w fun e w' => e = .returned (.tuple #[.string (enc s.size 2),.int .i64 0]) ∧ Below w.heap.size w w' := by
  rw [← putV_len s h]
  exact rPut_any _ _ _
def getN (s : ByteArray) (a x : Int) : Int := if oB s a && wB x then (if x ≤ s.size - a then dec s a.toNat x.toNat else 0) else 0
def getE (s : ByteArray) (a x : Int) : Int := if oB s a && wB x then (if x ≤ s.size - a then 0 else 2) else 1
theorem getV_eq (s : ByteArray) (a x : Int) : getV s a x = .tuple #[.int .i64 (getN s a x),.int .i64 (getE s a x)] := by
  unfold getV getN getE;split <;> (try split) <;> rfl
section
variable (w : World)
theorem get_s (s : ByteArray) (a x : Int) (hs : s.size ≤ maxLen) : Calls Tryz.prog 98 #[.string s,.int .i64 a,.int .i64 x] w fun e w' => e = .returned (.tuple #[.int .i64 (getN s a x),.int .i64 (getE s a x)]) ∧ w = w' := by
  rw [← getV_eq];exact get_any _ _ _ hs _
theorem rGet_s (s : ByteArray) (a x : Int) (hs : s.size ≤ maxLen) : Calls Tryz.prog 103 #[.string s,.int .i64 a,.int .i64 x] w fun e w' => e = .returned (.tuple #[.int .i64 (getN s a x),.int .i64 (getE s a x)]) ∧ w = w' := by
  rw [← getV_eq];exact rGet_any _ _ _ hs _
/-! awake's numbers,by the kernel -/
/-! the contracts at awake's numbers -/
end
end Go.Proofs.YtnnbjhpkgndclaaGreatDoor.Fx
namespace Go.Proofs.YtnnbjhpkgndclaaGreatDoor.Cr
open Go.RowKit
open Go.Proofs.YtnnbjhpkgndclaaGreatDoor.Fx
def one (x : Nat) : Nat := if x % 2 = 1 then (x / 2) ^^^ 3988292384 else x / 2
def ones : Nat → Nat → Nat
  | 0,x => x
  | k + 1,x => ones k (one x)
theorem one_xor (a b : Nat) : one (a ^^^ b) = one a ^^^ one b := by
  have h2 : (a ^^^ b) / 2 = (a / 2) ^^^ (b / 2) := Nat.xor_div_two
  have h1 : (a ^^^ b) % 2 = 1 ↔ ¬(a % 2 = 1 ↔ b % 2 = 1) := by
    rw [Nat.xor_mod_two_eq_one]
  unfold one
  rw [h2]
  by_cases ha : a % 2 = 1 <;> by_cases hb : b % 2 = 1
  · rw [if_neg (by rw [h1];simp [ha,hb]),if_pos ha,if_pos hb]
    rw [show (a / 2 ^^^ 3988292384) ^^^ (b / 2 ^^^ 3988292384) = (a / 2 ^^^ b / 2) ^^^ (3988292384 ^^^ 3988292384) by ac_rfl,Nat.xor_self,Nat.xor_zero]
  · rw [if_pos (by rw [h1];simp [ha,hb]),if_pos ha,if_neg hb];ac_rfl
  · rw [if_pos (by rw [h1];simp [ha,hb]),if_neg ha,if_pos hb];ac_rfl
  · rw [if_neg (by rw [h1];simp [ha,hb]),if_neg ha,if_neg hb]
theorem ones_xor (k a b : Nat) : ones k (a ^^^ b) = ones k a ^^^ ones k b := by
  induction k generalizing a b with
  | zero => rfl
  | succ k ih => rw [ones,one_xor,ih];rfl
theorem ones_add (k j x : Nat) : ones (k + j) x = ones j (ones k x) := by
  induction k generalizing x with
  | zero => rw [Nat.zero_add];rfl
  | succ k ih => rw [Nat.succ_add,ones,ih];rfl
theorem ones_mul (k x : Nat) : ones k (2 ^ k * x) = x := by
  induction k generalizing x with
  | zero => simp [ones]
  | succ k ih =>
    have e : one (2 ^ (k + 1) * x) = 2 ^ k * x := by
      unfold one
      rw [show 2 ^ (k + 1) * x = 2 * (2 ^ k * x) by rw [Nat.pow_succ];ac_rfl]
      rw [if_neg (by omega)];omega
    rw [ones,e,ih]
theorem one_lt {x : Nat} (h : x < 4294967296) : one x < 4294967296 := by
  unfold one
  split
  · exact Nat.xor_lt_two_pow (n := 32) (by omega) (by omega)
  · omega
theorem ones_lt {x : Nat} (k : Nat) (h : x < 4294967296) : ones k x < 4294967296 := by
  induction k generalizing x with
  | zero => exact h
  | succ k ih => rw [ones];exact ih (one_lt h)
theorem one_eq_zero {x : Nat} (h : x < 4294967296) (h0 : one x = 0) : x = 0 := by
  unfold one at h0
  split at h0
  · have e : x / 2 = 3988292384 := by
      have := congrArg (· ^^^ 3988292384) h0
      simpa only [Nat.xor_assoc,Nat.xor_self,Nat.xor_zero,Nat.zero_xor] using this
    omega
  · omega
theorem ones_eq_zero {x : Nat} (k : Nat) (h : x < 4294967296) (h0 : ones k x = 0) : x = 0 := by
  induction k generalizing x with
  | zero => exact h0
  | succ k ih => rw [ones] at h0;exact one_eq_zero h (ih (one_lt h) h0)
theorem join (k a b : Nat) (h : b < 2 ^ k) : 2 ^ k * a + b = 2 ^ k * a ^^^ b := by
  apply Nat.eq_of_testBit_eq
  intro j
  rw [Nat.testBit_two_pow_mul_add a h,Nat.testBit_xor,Nat.testBit_two_pow_mul]
  by_cases hj : j < k
  · simp [hj,show ¬ k ≤ j by omega]
  · have : b.testBit j = false := Nat.testBit_lt_two_pow (Nat.lt_of_lt_of_le h (Nat.pow_le_pow_right (by omega) (by omega)))
    simp [hj,this,show k ≤ j by omega]
def tab : List Int := [0,498536548,997073096,651767980,1994146192,1802195444,1303535960,1342533948,3988292384,4027552580,3604390888,3412177804,2607071920,2262029012,2685067896,3183342108]
def tbl (i : Nat) : Nat := ones 4 i
theorem tab_at (i : Nat) (h : i < 16) : tab.getD i 0 = (tbl i : Int) := by
  have : ∀ i : Fin 16,tab.getD i.val 0 = (tbl i.val : Int) := by decide +kernel
  exact this ⟨i,h⟩
theorem tbl_lt (i : Nat) (h : i < 16) : tbl i < 4294967296 := ones_lt 4 (by omega)
theorem half (x : Nat) : x / 16 ^^^ tbl (x % 16) = ones 4 x := by
  have e : x = 2 ^ 4 * (x / 16) ^^^ x % 16 := by rw [← join 4 _ _ (by omega)];omega
  conv => rhs;rw [e,ones_xor,ones_mul]
  rfl
def reg (r : Nat) (l : List UInt8) : Nat := l.foldl (fun r b => ones 8 (r ^^^ b.toNat)) r
theorem reg_append (r : Nat) (l m : List UInt8) : reg r (l ++ m) = reg (reg r l) m := List.foldl_append ..
theorem reg_snoc (r : Nat) (l : List UInt8) (b : UInt8) : reg r (l ++ [b]) = ones 8 (reg r l ^^^ b.toNat) := by rw [reg_append];rfl
theorem ones8 (x : Nat) : ones 4 (ones 4 x) = ones 8 x := (ones_add 4 4 x).symm
theorem step_lt {r : Nat} (b : UInt8) (h : r < 4294967296) : ones 8 (r ^^^ b.toNat) < 4294967296 := by
  have := b.toNat_lt
  exact ones_lt 8 (Nat.xor_lt_two_pow (n := 32) (by omega) (by omega))
theorem reg_lt {r : Nat} (l : List UInt8) (h : r < 4294967296) : reg r l < 4294967296 := by
  induction l generalizing r with
  | nil => exact h
  | cons b l ih => exact ih (step_lt b h)
def num : List UInt8 → Nat
  | [] => 0
  | b :: l => b.toNat ^^^ 2 ^ 8 * num l
theorem reg_num (r : Nat) (l : List UInt8) : reg r l = ones (8 * l.length) (r ^^^ num l) := by
  induction l generalizing r with
  | nil => simp [reg,num,ones]
  | cons b l ih =>
    show reg (ones 8 (r ^^^ b.toNat)) l = _
    rw [ih,List.length_cons,show 8 * (l.length + 1) = 8 + 8 * l.length by omega,ones_add,num,← Nat.xor_assoc,ones_xor 8 _ (2 ^ 8 * num l),ones_mul]
def I : Nat := 4294967295
def sum (l : List UInt8) : Nat := reg I l ^^^ I
theorem sum_lt (l : List UInt8) : sum l < 4294967296 := Nat.xor_lt_two_pow (n := 32) (reg_lt l (by decide)) (by decide)
theorem two_mul_xor (k a b : Nat) : 2 ^ k * (a ^^^ b) = 2 ^ k * a ^^^ 2 ^ k * b := by
  apply Nat.eq_of_testBit_eq
  intro j
  rw [Nat.testBit_xor,Nat.testBit_two_pow_mul,Nat.testBit_two_pow_mul,Nat.testBit_two_pow_mul,Nat.testBit_xor]
  by_cases h : k ≤ j <;> simp [h]
theorem num_append (l m : List UInt8) : num (l ++ m) = num l ^^^ 2 ^ (8 * l.length) * num m := by
  induction l with
  | nil => simp [num]
  | cons b l ih =>
    rw [List.cons_append,num,ih,two_mul_xor,num,List.length_cons,← Nat.xor_assoc]
    congr 1
    rw [← Nat.mul_assoc,← Nat.pow_add,show 8 + 8 * l.length = 8 * (l.length + 1) by omega]
def le4 (v : Nat) : List UInt8 := [UInt8.ofNat (v % 256),UInt8.ofNat (v / 256 % 256),UInt8.ofNat (v / 65536 % 256),UInt8.ofNat (v / 16777216 % 256)]
theorem le4_num (v : Nat) (h : v < 4294967296) : num (le4 v) = v := by
  have e : ∀ x : Nat,(UInt8.ofNat (x % 256)).toNat = x % 256 := fun x => by rw [UInt8.toNat_ofNat'];omega
  simp only [le4,num,e,Nat.mul_zero,Nat.xor_zero]
  rw [Nat.xor_comm (v / 65536 % 256),← join 8 _ _ (by omega),Nat.xor_comm (v / 256 % 256),← join 8 _ _ (by omega),Nat.xor_comm (v % 256),← join 8 _ _ (by omega)]
  omega
theorem num4_inj {l m : List UInt8} (hl : l.length = m.length) (h : num l = num m) : l = m := by
  induction l generalizing m with
  | nil => cases m with
    | nil => rfl
    | cons => simp at hl
  | cons b l ih => cases m with
    | nil => simp at hl
    | cons c m =>
      have hb := b.toNat_lt
      have hc := c.toNat_lt
      rw [num,num,Nat.xor_comm,← join 8 _ _ (by omega),Nat.xor_comm,← join 8 _ _ (by omega)] at h
      have h1 : b.toNat = c.toNat := by omega
      have h2 : num l = num m := by omega
      rw [ih (by simpa using hl) h2,UInt8.toNat_inj.1 h1]
theorem sum_check (l m : List UInt8) (hm : m.length = 4) : m = le4 (sum l) ↔ ones (8 * l.length) (I ^^^ num (l ++ m)) = I := by
  rw [num_append,← Nat.xor_assoc,ones_xor,ones_mul,← reg_num]
  constructor
  · intro h
    rw [h,le4_num _ (sum_lt l)]
    unfold sum
    rw [← Nat.xor_assoc,Nat.xor_self,Nat.zero_xor]
  · intro h
    apply num4_inj (by rw [hm];rfl)
    rw [le4_num _ (sum_lt l)]
    have e := congrArg (reg I l ^^^ ·) h
    simp only [← Nat.xor_assoc,Nat.xor_self,Nat.zero_xor] at e
    exact e
theorem turned (l m l' m' : List UInt8) (hm : m.length = 4) (hl : l'.length = l.length) (hm' : m'.length = 4) (first bits : Nat) (hf : first ≤ 8 * l.length) (hb : bits < 4294967296) (hb0 : bits ≠ 0)
    (h : m = le4 (sum l)) (hx : num (l' ++ m') = num (l ++ m) ^^^ 2 ^ first * bits) : m' ≠ le4 (sum l') := by
  intro h'
  rw [sum_check l m hm] at h
  rw [sum_check l' m' hm',hl,hx,← Nat.xor_assoc,ones_xor,h] at h'
  have e : ones (8 * l.length) (2 ^ first * bits) = 0 := by
    have := congrArg (I ^^^ ·) h'
    simpa only [← Nat.xor_assoc,Nat.xor_self,Nat.zero_xor] using this
  rw [show 8 * l.length = first + (8 * l.length - first) by omega,ones_add,ones_mul] at e
  exact hb0 (ones_eq_zero _ hb e)
def Tab (w : World) : Prop := ∀ i,i < 16 → w.cell? ⟨2,i,none⟩ = some (.int .u32 (tbl i))
theorem cell_lt {w : World} {a : Addr} {v : Value} (h : w.cell? a = some v) : a.block < w.heap.size := by
  rcases Nat.lt_or_ge a.block w.heap.size with h' | h'
  · exact h'
  · simp [World.cell?,Array.getElem?_eq_none h'] at h
theorem Tab.below {w w' : World} (h : Tab w) (hb : Below w.heap.size w w') : Tab w' := fun i hi => by
  rw [hb.cell (cell_lt (h i hi)),h i hi]
theorem and15 (x : Nat) (h : x < 4294967296) : bits .and .u32 (x : Int) 15 = ((x % 16 : Nat) : Int) := by
  rw [show (15 : Int) = ((15 : Nat) : Int) from rfl,u32_and_nat x 15 h (by omega),show 15 = 2 ^ 4 - 1 from rfl,Nat.and_two_pow_sub_one_eq_mod]
set_option maxHeartbeats 400000 in
theorem shiftHalf_any (x : Nat) (hx : x < 4294967296) (w : World) (ht : Tab w) :
    Calls Tryz.prog 137 #[.int .u32 x] w fun e w' => e = .returned (.int .u32 (ones 4 x : Nat)) ∧ w = w' := by
  have ha := and15 x hx
  have hm : x % 16 < 16 := Nat.mod_lt _ (by omega)
  have hc := ht (x % 16) hm
  have hl := tbl_lt (x % 16) hm
  have H : Hid (bits .xor .u32 ((x / 16 : Nat) : Int) (tbl (x % 16) : Nat) = ((ones 4 x : Nat) : Int)) := lH (by rw [u32_xor_nat _ _ (by omega) hl,half])
  clear ht
  go_enter Tryz.func137,Tryz.ntmps137
  go_wp2
  go_ret
  exact ⟨ret_int H.out,rfl⟩
theorem take_snoc (s : ByteArray) (k : Nat) (h : k < s.size) : s.data.toList.take (k + 1) = s.data.toList.take k ++ [s[k]] := by
  rw [List.take_succ_eq_append_getElem (by rw [Array.length_toList];exact h)];rfl
def regK (s : ByteArray) (k : Nat) : Nat := reg I (s.data.toList.take k)
theorem regK_lt (s : ByteArray) (k : Nat) : regK s k < 4294967296 := reg_lt _ (by decide)
theorem regK_succ (s : ByteArray) (k : Nat) (h : k < s.size) : regK s (k + 1) = ones 4 (ones 4 (regK s k ^^^ s[k].toNat)) := by
  rw [regK,take_snoc s k h,reg_snoc,ones8];rfl
def sumS (s : ByteArray) : Nat := sum s.data.toList
theorem sumS_lt (s : ByteArray) : sumS s < 4294967296 := sum_lt _
theorem regK_full (s : ByteArray) : regK s s.size = reg I s.data.toList := by
  unfold regK;rw [List.take_of_length_le (by rw [Array.length_toList];exact Nat.le_refl _)]
theorem byte_xor (s : ByteArray) (k : Nat) (h : k < s.size) : bits .xor .u32 (regK s k : Nat) ((s[k].toNat : Int) % 4294967296) = ((regK s k ^^^ s[k].toNat : Nat) : Int) := by
  have h3 := s[k].toNat_lt
  rw [show ((s[k].toNat : Int) % 4294967296) = (s[k].toNat : Int) by omega,u32_xor_nat _ _ (regK_lt s k) (by omega)]
theorem xor_lt (s : ByteArray) (k : Nat) (h : k < s.size) : regK s k ^^^ s[k].toNat < 4294967296 := by
  have h3 := s[k].toNat_lt
  exact Nat.xor_lt_two_pow (n := 32) (regK_lt s k) (by omega)
set_option maxHeartbeats 400000 in
theorem sum_any (s : ByteArray) (hs : s.size ≤ maxLen) (w : World) (ht : Tab w) :
    Calls Tryz.prog 111 #[.string s] w fun e w' => e = .returned (.int .i64 (sumS s : Nat)) ∧ w = w' := by
  unfold maxLen at hs
  have HT := lH ht
  clear ht
  have HF : Hid (wrap64 (bits .xor .u32 (regK s s.size : Nat) 4294967295) = ((sumS s : Nat) : Int)) := lH (by
    rw [show (4294967295 : Int) = ((4294967295 : Nat) : Int) from rfl,u32_xor_nat _ _ (regK_lt _ _) (by omega),regK_full]
    have := sumS_lt s
    unfold wrap64
    show _ = ((reg I s.data.toList ^^^ 4294967295 : Nat) : Int)
    have h2 : reg I s.data.toList ^^^ 4294967295 < 4294967296 := this
    omega)
  go_enter Tryz.func111,Tryz.ntmps111
  go_wp2
  go_loop [3,7] (fun u i => ∃ k : Nat,k ≤ s.size ∧ i = .int .i64 k ∧ u = .int .u32 (regK s k : Nat)) (fun _ i => s.size - (intOf i).toNat)
  case atStart => exact ⟨0,Nat.zero_le _,rfl,rfl⟩
  case round =>
    obtain ⟨k,hk,rfl,rfl⟩ := hrel
    by_cases hlt : k < s.size
    · have HX := lH (byte_xor s k hlt)
      have HS := lH (regK_succ s k hlt)
      have HL := lH (xor_lt s k hlt)
      go_wp2_with fail
      rw [HX.out]
      refine (shiftHalf_any _ HL.out _ HT.out).mono ?_
      rintro e w' ⟨rfl,rfl⟩
      go_wp2_with fail
      refine (shiftHalf_any _ (ones_lt 4 HL.out) _ HT.out).mono ?_
      rintro e w' ⟨rfl,rfl⟩
      go_wp2
      go_round
      case rel => exact ⟨k + 1,by omega,by go_num,by rw [HS.out]⟩
      case measure => simp [intOf];omega
    · obtain rfl : k = s.size := by omega
      go_wp2
      go_ret
      exact ⟨ret_int HF.out,rfl⟩
/-! the document's own answer -/
theorem ones_succ (k x : Nat) : ones (k + 1) x = one (ones k x) := by rw [ones_add];rfl
theorem and1 (x : Nat) (h : x < 4294967296) : bits .and .u32 (x : Int) 1 = ((x % 2 : Nat) : Int) := by
  rw [show (1 : Int) = ((1 : Nat) : Int) from rfl,u32_and_nat x 1 h (by omega),show 1 = 2 ^ 1 - 1 from rfl,Nat.and_two_pow_sub_one_eq_mod]
set_option maxHeartbeats 400000 in
theorem rStep_any (x : Nat) (hx : x < 4294967296) (w : World) :
    Calls Tryz.prog 119 #[.int .u32 x] w fun e w' => e = .returned (.int .u32 (ones 4 x : Nat)) ∧ w = w' := by
  have HB : Hid (∀ k,ones k x < 4294967296) := lH fun k => ones_lt k hx
  clear hx
  go_enter Tryz.func119,Tryz.ntmps119
  go_wp2
  go_loop [0,3] (fun u i => ∃ k : Nat,k ≤ 4 ∧ i = .int .i64 k ∧ u = .int .u32 (ones k x : Nat)) (fun _ i => 4 - (intOf i).toNat)
  case atStart => exact ⟨0,Nat.zero_le _,rfl,rfl⟩
  case round =>
    obtain ⟨k,hk,rfl,rfl⟩ := hrel
    by_cases hlt : k < 4
    · have hv := HB.out k
      by_cases h : ones k x % 2 = 1
      · have ha : bits .and .u32 ((ones k x : Nat) : Int) 1 = 1 := by rw [and1 _ hv,h];rfl
        have HS : Hid (bits .xor .u32 ((ones k x / 2 : Nat) : Int) 3988292384 = ((ones (k + 1) x : Nat) : Int)) := lH (by
          rw [show (3988292384 : Int) = ((3988292384 : Nat) : Int) from rfl,u32_xor_nat _ _ (by omega) (by omega),ones_succ,one,if_pos h])
        go_wp2
        go_round
        case rel => exact ⟨k + 1,by omega,by go_num,by rw [← HS.out];rfl⟩
        case measure => simp [intOf];omega
      · have ha : bits .and .u32 ((ones k x : Nat) : Int) 1 = 0 := by rw [and1 _ hv,show ones k x % 2 = 0 by omega];rfl
        have HS : Hid (ones k x / 2 = ones (k + 1) x) := lH (by rw [ones_succ,one,if_neg h])
        go_wp2
        go_round
        case rel => exact ⟨k + 1,by omega,by go_num,by rw [← HS.out];rfl⟩
        case measure => simp [intOf];omega
    · obtain rfl : k = 4 := by omega
      go_wp2
      go_ret
      exact ⟨rfl,rfl⟩
theorem not32 (x : Nat) (h : x < 4294967296) : bits .xor .u32 4294967295 (x : Int) = ((x ^^^ 4294967295 : Nat) : Int) := by
  rw [show (4294967295 : Int) = ((4294967295 : Nat) : Int) from rfl,u32_xor_nat _ _ (by omega) h,Nat.xor_comm]
set_option maxHeartbeats 400000 in
theorem rSum_any (s : ByteArray) (hs : s.size ≤ maxLen) (w : World) :
    Calls Tryz.prog 94 #[.string s] w fun e w' => e = .returned (.int .i64 (sumS s : Nat)) ∧ w = w' := by
  unfold maxLen at hs
  have HN : Hid (bits .xor .u32 IntKind.u32.max (regK s s.size : Nat) = ((sumS s : Nat) : Int)) := lH (by
    show bits .xor .u32 4294967295 _ = _
    rw [not32 _ (regK_lt _ _),regK_full];rfl)
  have HF : Hid (wrap64 ((sumS s : Nat) : Int) = ((sumS s : Nat) : Int)) := lH (by
    have := sumS_lt s
    unfold wrap64
    omega)
  go_enter Tryz.func94,Tryz.ntmps94
  go_wp2
  go_loop [3,7] (fun u i => ∃ k : Nat,k ≤ s.size ∧ i = .int .i64 k ∧ u = .int .u32 (regK s k : Nat)) (fun _ i => s.size - (intOf i).toNat)
  case atStart => exact ⟨0,Nat.zero_le _,rfl,rfl⟩
  case round =>
    obtain ⟨k,hk,rfl,rfl⟩ := hrel
    by_cases hlt : k < s.size
    · have HX := lH (byte_xor s k hlt)
      have HS := lH (regK_succ s k hlt)
      have HL := lH (xor_lt s k hlt)
      go_wp2_with fail
      rw [HX.out]
      refine (rStep_any _ HL.out _).mono ?_
      rintro e w' ⟨rfl,rfl⟩
      go_wp2_with fail
      refine (rStep_any _ (ones_lt 4 HL.out) _).mono ?_
      rintro e w' ⟨rfl,rfl⟩
      go_wp2
      go_round
      case rel => exact ⟨k + 1,by omega,by go_num,by rw [HS.out]⟩
      case measure => simp [intOf];omega
    · obtain rfl : k = s.size := by omega
      go_wp2
      go_ret
      exact ⟨ret_int (by rw [HN.out,HF.out]),rfl⟩
def arrF (f : Nat → Int) (w k : Nat) : Array Value := ((List.range w).map fun i => if i < k then Value.int .u8 (f i) else Value.int .u8 0).toArray
theorem arrF_zero (f : Nat → Int) (w : Nat) : arrF f w 0 = arr 0 w 0 := by
  apply Array.ext'
  simp [arrF,arr]
theorem arrF_succ (f : Nat → Int) (w k : Nat) : (arrF f w k).setIfInBounds k (.int .u8 (f k)) = arrF f w (k + 1) := by
  apply Array.ext'
  unfold arrF
  rw [Array.toList_setIfInBounds]
  apply List.ext_getElem
  · simp
  · intro i h1 h2
    simp at h1 h2
    rw [List.getElem_set]
    by_cases h : k = i
    · subst h;simp
    · simp [h]
      by_cases h3 : i < k
      · simp [h3,show i < k + 1 by omega]
      · simp [h3,show ¬ i < k + 1 by omega]
theorem arrF_at (f : Nat → Int) (w k : Nat) (h : k < w) : (arrF f w k)[k]? = some (.int .u8 0) := by simp [arrF,h]
theorem arrF_get (f : Nat → Int) (w i : Nat) (h : i < w) : (arrF f w w)[i]? = some (.int .u8 (((List.range w).map f).getD i 0)) := by
  simp [arrF,h]
theorem conv_f (f : Nat → Int) (n : Nat) (w : World) :
    (convert 105 9 (.slice (some ⟨w.heap.size,0,none⟩) n n)).run Tryz.prog (w.alloc (.cells (arrF f n n) 5)) = .ok (.string (strOfNums ((List.range n).map f))) (w.alloc (.cells (arrF f n n) 5)) :=
  run_convert_bytes_arg (P := Tryz.prog) _ 105 5 Tryz.underlying105 Tryz.underlying5 _ 0 n n ((List.range n).map f) (by simp) (fun i hi => by rw [World.cell?_alloc_at _ _ _ _ rfl,Nat.zero_add];exact arrF_get f n i hi) 9 Tryz.underlying9
theorem make_f (f : Nat → Int) (n : Nat) (hn : n ≤ 100000) (w : World) :
    (Instr.makeSlice 105 (.int .i64 n) (.int .i64 n)).run Tryz.prog w = .ok (.slice (some ⟨w.heap.size,0,none⟩) n n) (w.alloc (.cells (arrF f n 0) 5)) := by
  obtain ⟨i0,hi,hz0,hz1,hz2⟩ := info_parts info5
  have h := run_make (P := Tryz.prog) w 105 5 i0 (.int .u8 0) Tryz.underlying105 hi hz0 .i64 .i64 n n (by omega) (by omega) (by rw [hz2];omega) (by omega)
  rw [h,hz1,arrF_zero,← arr_zero]
  simp [Value.cells]
def fle (v : Nat) (i : Nat) : Int := (v : Int) / 2 ^ (8 * i) % 256
def leS (v : Nat) : ByteArray := strOfNums ((List.range 4).map (fle v))
theorem leS_data (v : Nat) : (leS v).data.toList = le4 v := by
  have e : ∀ i p : Nat,(2 : Int) ^ (8 * i) = (p : Int) → UInt8.ofNat (fle v i).toNat = UInt8.ofNat (v / p % 256) := fun i p hp => by
    have : fle v i = ((v / p % 256 : Nat) : Int) := by unfold fle;rw [hp];omega
    rw [this,Int.toNat_natCast]
  unfold leS
  rw [strOfNums_data,show List.range 4 = [0,1,2,3] from rfl]
  simp only [List.map_cons,List.map_nil]
  rw [e 0 1 rfl,e 1 256 rfl,e 2 65536 rfl,e 3 16777216 rfl,Nat.div_one]
  rfl
theorem leS_size (v : Nat) : (leS v).size = 4 := by rw [leS,strOfNums_size];rfl
set_option maxHeartbeats 400000 in
theorem sumBytes_any (v : Nat) (hv : v < 4294967296) (w : World) :
    Calls Tryz.prog 110 #[.int .i64 v] w fun e w' => e = .returned (.string (leS v)) ∧ Below w.heap.size w w' := by
  have hmk : ∀ w : World,(Instr.makeSlice 105 (.int .i64 4) (.int .i64 4)).run Tryz.prog w = .ok (.slice (some ⟨w.heap.size,0,none⟩) 4 4) (w.alloc (.cells (arrF (fle v) 4 0) 5)) := fun w => make_f (fle v) 4 (by omega) w
  go_enter Tryz.func110,Tryz.ntmps110
  go_wp2
  go_loopw [6] (fun i wr => ∃ k : Nat,k ≤ 4 ∧ i = .int .i64 k ∧ wr = w.alloc (.cells (arrF (fle v) 4 k) 5)) (fun i _ => 4 - (intOf i).toNat)
  case atStart => exact ⟨0,Nat.zero_le _,rfl,rfl⟩
  case round =>
    obtain ⟨k,hk,rfl,rfl⟩ := hrel
    by_cases hlt : k < 4
    · have hc := arrF_at (fle v) 4 k hlt
      go_wp2
      go_roundw
      case rel => exact ⟨k + 1,by omega,by go_num,by rw [← arrF_succ];rfl⟩
      case measure => simp [intOf];omega
    · obtain rfl : k = 4 := by omega
      have hcv := conv_f (fle v) 4 w
      go_wp2
      go_ret
      exact ⟨rfl,(Below.refl _ _).alloc (Nat.le_refl _) _⟩
theorem arrF4 (v : Nat) (hv : v < 4294967296) : arrF (fle v) 4 4 = #[Value.int .u8 (v % 256),.int .u8 (v / 256 % 256),.int .u8 (v / 65536 % 256),.int .u8 (v / 16777216)] := by
  apply Array.ext'
  simp [arrF,show List.range 4 = [0,1,2,3] from rfl,fle]
  omega
set_option maxHeartbeats 400000 in
theorem rBack_any (v : Nat) (hv : v < 4294967296) (w : World) :
    Calls Tryz.prog 93 #[.int .i64 v] w fun e w' => e = .returned (.string (leS v)) ∧ Below w.heap.size w w' := by
  have hcv := conv_f (fle v) 4 w
  rw [arrF4 v hv] at hcv
  go_enter Tryz.func93,Tryz.ntmps93
  go_wp2
  go_ret
  exact ⟨rfl,(Below.refl _ _).alloc (Nat.le_refl _) _⟩
theorem putLen_any (s : ByteArray) (h : s.size ≤ 4000) (w : World) :
    Calls Tryz.prog 99 #[.int .i64 s.size,.int .i64 2] w fun e w' => e = .returned (.tuple #[.string (enc s.size 2),.int .i64 0]) ∧ Below w.heap.size w w' := by
  rw [← putV_len s h]
  exact put_any _ _ _
def body (s : ByteArray) : ByteArray := enc s.size 2 ++ s
theorem body_size (s : ByteArray) : (body s).size = 2 + s.size := by rw [body,ByteArray.size_append,enc_size]
def frm (s : ByteArray) : ByteArray := body s ++ leS (sumS (body s))
theorem frm_size (s : ByteArray) : (frm s).size = s.size + 6 := by rw [frm,ByteArray.size_append,body_size,leS_size];omega
def frameS (s : ByteArray) : ByteArray := if s.size ≤ 2000 then frm s else ByteArray.empty
def frameE (s : ByteArray) : Int := if s.size ≤ 2000 then 0 else 5
def frameV (s : ByteArray) : Value := .tuple #[.string (frameS s),.int .i64 (frameE s)]
theorem body_max (s : ByteArray) (h : s.size ≤ 2000) : (body s).size ≤ maxLen := by rw [body_size];unfold maxLen;omega
set_option maxHeartbeats 400000 in
theorem frame_any (s : ByteArray) (hs : s.size ≤ maxLen) (w : World) (ht : Tab w) :
    Calls Tryz.prog 79 #[.string s] w fun e w' => e = .returned (.tuple #[.string (frameS s),.int .i64 (frameE s)]) ∧ Below w.heap.size w w' := by
  unfold maxLen at hs
  have HT := lH ht
  clear ht
  by_cases h : s.size ≤ 2000
  · have H : Hid (frameV s = .tuple #[.string (body s ++ leS (sumS (body s))),.int .i64 0]) := lH (by simp [frameV,frameS,frameE,h,frm])
    have HB : Hid (enc s.size 2 ++ s = body s) := lH rfl
    have hz := enc_size s.size 2
    have hz1 := body_size s
    have hz2 := leS_size (sumS (body s))
    have HM := lH (body_max s h)
    go_enter Tryz.func79,Tryz.ntmps79
    go_wp2_with fail
    refine (putLen_any s (by omega) _).mono ?_
    rintro e w1 ⟨rfl,hb1⟩
    go_wp2_with fail
    rw [HB.out]
    refine (sum_any (body s) HM.out _ (HT.out.below hb1)).mono ?_
    rintro e w' ⟨rfl,rfl⟩
    go_wp2_with fail
    refine (sumBytes_any (sumS (body s)) (sumS_lt _) _).mono ?_
    rintro e w2 ⟨rfl,hb2⟩
    go_wp2
    go_ret2
    exact ⟨ret_v H.out.symm,nx hb1 hb2⟩
  · have H : Hid (frameV s = .tuple #[.string ByteArray.empty,.int .i64 5]) := lH (by simp [frameV,frameS,frameE,h])
    go_enter Tryz.func79,Tryz.ntmps79
    go_wp2
    go_ret2
    exact ⟨ret_v H.out.symm,Below.refl _ _⟩
set_option maxHeartbeats 400000 in
theorem rFrame_any (s : ByteArray) (hs : s.size ≤ maxLen) (w : World) :
    Calls Tryz.prog 61 #[.string s] w fun e w' => e = .returned (.tuple #[.string (frameS s),.int .i64 (frameE s)]) ∧ Below w.heap.size w w' := by
  unfold maxLen at hs
  by_cases h : s.size ≤ 2000
  · have H : Hid (frameV s = .tuple #[.string (body s ++ leS (sumS (body s))),.int .i64 0]) := lH (by simp [frameV,frameS,frameE,h,frm])
    have HB : Hid (enc s.size 2 ++ s = body s) := lH rfl
    have hz := enc_size s.size 2
    have hz1 := body_size s
    have hz2 := leS_size (sumS (body s))
    have HM := lH (body_max s h)
    go_enter Tryz.func61,Tryz.ntmps61
    go_wp2_with fail
    refine (rPutLen_any s (by omega) _).mono ?_
    rintro e w1 ⟨rfl,hb1⟩
    go_wp2_with fail
    rw [HB.out]
    refine (rSum_any (body s) HM.out _).mono ?_
    rintro e w' ⟨rfl,rfl⟩
    go_wp2_with fail
    refine (rBack_any (sumS (body s)) (sumS_lt _) _).mono ?_
    rintro e w2 ⟨rfl,hb2⟩
    go_wp2
    go_ret2
    exact ⟨ret_v H.out.symm,nx hb1 hb2⟩
  · have H : Hid (frameV s = .tuple #[.string ByteArray.empty,.int .i64 5]) := lH (by simp [frameV,frameS,frameE,h])
    go_enter Tryz.func61,Tryz.ntmps61
    go_wp2
    go_ret2
    exact ⟨ret_v H.out.symm,Below.refl _ _⟩
theorem getE_zero {s : ByteArray} {a : Int} (h : getE s a 2 = 0) : ∃ b : Nat,a = b ∧ b + 2 ≤ s.size ∧ getV s a 2 = .tuple #[.int .i64 (dec s b 2),.int .i64 0] := by
  unfold getE at h
  by_cases h1 : (oB s a && wB 2) = true
  · rw [h1,if_pos rfl] at h
    have h1' := h1
    rw [Bool.and_eq_true] at h1'
    by_cases h2 : 2 ≤ (s.size : Int) - a
    · have ho : 0 ≤ a ∧ a ≤ s.size := by simpa [oB] using h1'.1
      obtain ⟨b,rfl⟩ := Int.eq_ofNat_of_zero_le ho.1
      refine ⟨b,rfl,by omega,?_⟩
      unfold getV;rw [h1,if_pos rfl,if_pos h2];rfl
    · rw [if_neg h2] at h;exact absurd h (by decide)
  · rw [if_neg h1] at h;exact absurd h (by decide)
def sumOK (s : ByteArray) (b n : Nat) : Bool := (s.extract (b + 2 + n) (b + 2 + n + 4)).toList == (leS (sumS (s.extract b (b + 2 + n)))).toList
def openE (s : ByteArray) (a : Int) : Int :=
  if getE s a 2 = 0 then
    (if dec s a.toNat 2 ≤ 2000 then
      (if a.toNat + 2 + dec s a.toNat 2 + 4 ≤ s.size then (if sumOK s a.toNat (dec s a.toNat 2) then 0 else 4) else 2)
    else 5)
  else getE s a 2
def openS (s : ByteArray) (a : Int) : ByteArray := if openE s a = 0 then s.extract (a.toNat + 2) (a.toNat + 2 + dec s a.toNat 2) else ByteArray.empty
def openA (s : ByteArray) (a : Int) : Int := if openE s a = 0 then a + 2 + dec s a.toNat 2 + 4 else 0
def openV (s : ByteArray) (a : Int) : Value := .tuple #[.string (openS s a),.int .i64 (openA s a),.int .i64 (openE s a)]
theorem openV_no {s : ByteArray} {a x : Int} (h : openE s a = x) (hx : x ≠ 0) : openV s a = .tuple #[.string ByteArray.empty,.int .i64 0,.int .i64 x] := by
  unfold openV openS openA;rw [h,if_neg hx,if_neg hx]
theorem openV_yes {s : ByteArray} {b : Nat} (h : openE s b = 0) : openV s b = .tuple #[.string (s.extract (b + 2) (b + 2 + dec s b 2)),.int .i64 (b + 2 + dec s b 2 + 4),.int .i64 0] := by
  unfold openV openS openA;rw [h,if_pos rfl,if_pos rfl];rfl
set_option maxHeartbeats 1600000 in
theorem open_any (s : ByteArray) (a : Int) (hs : s.size ≤ maxLen) (w : World) (ht : Tab w) :
    Calls Tryz.prog 97 #[.string s,.int .i64 a] w fun e w' => e = .returned (.tuple #[.string (openS s a),.int .i64 (openA s a),.int .i64 (openE s a)]) ∧ Below w.heap.size w w' := by
  have L1 := lH hs
  unfold maxLen at hs
  have HT := lH ht
  clear ht
  by_cases h1 : getE s a 2 = 0
  · have g := getE_zero h1
    obtain ⟨b,rfl,hb,G⟩ := g
    have G := lH G
    have hd := dec_lt s b 2
    by_cases h2 : dec s b 2 ≤ 2000
    · by_cases h3 : b + 2 + dec s b 2 + 4 ≤ s.size
      · have q5 : (0 : Int) ≤ (b : Int) := by omega
        have q6 : (b : Int) ≤ (b : Int) + 2 + (dec s b 2 : Nat) := by omega
        have q7 : (b : Int) + 2 + (dec s b 2 : Nat) ≤ (s.size : Int) := by omega
        have q8 : ((b : Int) + 2 + (dec s b 2 : Nat)).toNat = b + 2 + dec s b 2 := by omega
        have q9 : ((b : Int) + 2 + (dec s b 2 : Nat) + 4).toNat = b + 2 + dec s b 2 + 4 := by omega
        have q10 : (0 : Int) ≤ (b : Int) + 2 + (dec s b 2 : Nat) := by omega
        have q11 : (b : Int) + 2 + (dec s b 2 : Nat) ≤ (b : Int) + 2 + (dec s b 2 : Nat) + 4 := by omega
        have q12 : (b : Int) + 2 + (dec s b 2 : Nat) + 4 ≤ (s.size : Int) := by omega
        have HX : Hid ((s.extract b (b + 2 + dec s b 2)).size ≤ maxLen) := lH (by rw [ByteArray.size_extract];unfold maxLen;omega)
        by_cases h4 : sumOK s b (dec s b 2) = true
        · have H : Hid (openV s b = _) := lH (openV_yes (by unfold openE;rw [if_pos h1,Int.toNat_natCast,if_pos h2,if_pos h3,if_pos h4]))
          have hx : (s.extract (b + 2) (b + 2 + dec s b 2)).size ≤ 281474976710656 := by rw [ByteArray.size_extract];omega
          unfold sumOK at h4
          clear h1
          go_enter Tryz.func97,Tryz.ntmps97
          go_wp2_with fail
          refine (get_any s b 2 L1.out _).mono ?_
          rintro e w' ⟨rfl,rfl⟩
          rw [G.out]
          go_wp2_with fail
          go_region_held3 (fun _ => True) (trivial) ((first | (go_at_call 111;refine (sum_any _ HX.out _ (HT.out.below ((Below.refl _ _).drew))).mono ?_;rintro e w1 ⟨rfl,rfl⟩) | (go_at_call 110;refine (sumBytes_any _ (sumS_lt _) _).mono ?_;rintro e w1 ⟨rfl,hb1⟩)))
          go_wp2_with fail
          refine (clone_any (s.extract (b + 2) (b + 2 + dec s b 2)) hx _).mono ?_
          rintro e w2 ⟨rfl,hb2⟩
          go_wp2
          go_ret3
          exact ⟨ret_v H.out.symm,nx (nd hb1) hb2⟩
        · have H : Hid (openV s b = _) := lH (openV_no (x := 4) (by unfold openE;rw [if_pos h1,Int.toNat_natCast,if_pos h2,if_pos h3,if_neg h4]) (by decide))
          have h4 : ((s.extract (b + 2 + dec s b 2) (b + 2 + dec s b 2 + 4)).toList == (leS (sumS (s.extract b (b + 2 + dec s b 2)))).toList) = false := by simpa [sumOK] using h4
          clear h1
          go_enter Tryz.func97,Tryz.ntmps97
          go_wp2_with fail
          refine (get_any s b 2 L1.out _).mono ?_
          rintro e w' ⟨rfl,rfl⟩
          rw [G.out]
          go_wp2_with fail
          go_region_held3 (fun _ => True) (trivial) ((first | (go_at_call 111;refine (sum_any _ HX.out _ (HT.out.below ((Below.refl _ _).drew))).mono ?_;rintro e w1 ⟨rfl,rfl⟩) | (go_at_call 110;refine (sumBytes_any _ (sumS_lt _) _).mono ?_;rintro e w1 ⟨rfl,hb1⟩)))
          go_wp2
          go_ret3
          exact ⟨ret_v H.out.symm,nd hb1⟩
      · have H : Hid (openV s b = _) := lH (openV_no (x := 2) (by unfold openE;rw [if_pos h1,Int.toNat_natCast,if_pos h2,if_neg h3]) (by decide))
        clear h1
        go_enter Tryz.func97,Tryz.ntmps97
        go_wp2_with fail
        refine (get_any s b 2 L1.out _).mono ?_
        rintro e w' ⟨rfl,rfl⟩
        rw [G.out]
        go_wp2
        go_ret3
        exact ⟨ret_v H.out.symm,Below.refl _ _⟩
    · have H : Hid (openV s b = _) := lH (openV_no (x := 5) (by unfold openE;rw [if_pos h1,Int.toNat_natCast,if_neg h2]) (by decide))
      clear h1
      go_enter Tryz.func97,Tryz.ntmps97
      go_wp2_with fail
      refine (get_any s b 2 L1.out _).mono ?_
      rintro e w' ⟨rfl,rfl⟩
      rw [G.out]
      go_wp2
      go_ret3
      exact ⟨ret_v H.out.symm,Below.refl _ _⟩
  · have H : Hid (openV s a = _) := lH (openV_no (x := getE s a 2) (by unfold openE;rw [if_neg h1]) h1)
    have h1' : (getE s a 2 != 0) = true := by simpa using h1
    have h1'' : (getE s a 2 == 0) = false := by simpa using h1
    go_enter Tryz.func97,Tryz.ntmps97
    go_wp2_with fail
    refine (get_s _ s a 2 L1.out).mono ?_
    rintro e w' ⟨rfl,rfl⟩
    go_wp2
    go_ret3
    exact ⟨ret_v H.out.symm,Below.refl _ _⟩
set_option maxHeartbeats 1600000 in
theorem rOpen_any (s : ByteArray) (a : Int) (hs : s.size ≤ maxLen) (w : World) :
    Calls Tryz.prog 102 #[.string s,.int .i64 a] w fun e w' => e = .returned (.tuple #[.string (openS s a),.int .i64 (openA s a),.int .i64 (openE s a)]) ∧ Below w.heap.size w w' := by
  have L1 := lH hs
  unfold maxLen at hs
  by_cases h1 : getE s a 2 = 0
  · have g := getE_zero h1
    obtain ⟨b,rfl,hb,G⟩ := g
    have G := lH G
    have hd := dec_lt s b 2
    by_cases h2 : dec s b 2 ≤ 2000
    · by_cases h3 : b + 2 + dec s b 2 + 4 ≤ s.size
      · have q5 : (0 : Int) ≤ (b : Int) := by omega
        have q6 : (b : Int) ≤ (b : Int) + 2 + (dec s b 2 : Nat) := by omega
        have q7 : (b : Int) + 2 + (dec s b 2 : Nat) ≤ (s.size : Int) := by omega
        have q8 : ((b : Int) + 2 + (dec s b 2 : Nat)).toNat = b + 2 + dec s b 2 := by omega
        have q9 : ((b : Int) + 2 + (dec s b 2 : Nat) + 4).toNat = b + 2 + dec s b 2 + 4 := by omega
        have q10 : (0 : Int) ≤ (b : Int) + 2 + (dec s b 2 : Nat) := by omega
        have q11 : (b : Int) + 2 + (dec s b 2 : Nat) ≤ (b : Int) + 2 + (dec s b 2 : Nat) + 4 := by omega
        have q12 : (b : Int) + 2 + (dec s b 2 : Nat) + 4 ≤ (s.size : Int) := by omega
        have HX : Hid ((s.extract b (b + 2 + dec s b 2)).size ≤ maxLen) := lH (by rw [ByteArray.size_extract];unfold maxLen;omega)
        have q13 : IntKind.i64.wrap ((b : Int) + 2 + (dec s b 2 : Nat) + 4) = (b : Int) + 2 + (dec s b 2 : Nat) + 4 := IntWalk.i64_in _ (by omega)
        have Q13 := lH q13
        clear q13
        by_cases h4 : sumOK s b (dec s b 2) = true
        · have H : Hid (openV s b = _) := lH (openV_yes (by unfold openE;rw [if_pos h1,Int.toNat_natCast,if_pos h2,if_pos h3,if_pos h4]))
          have hx : (s.extract (b + 2) (b + 2 + dec s b 2)).size ≤ 281474976710656 := by rw [ByteArray.size_extract];omega
          have h4 : ((leS (sumS (s.extract b (b + 2 + dec s b 2)))).toList == (s.extract (b + 2 + dec s b 2) (b + 2 + dec s b 2 + 4)).toList) = true := by unfold sumOK at h4;rw [beq_iff_eq] at h4 ⊢;exact h4.symm
          clear h1
          go_enter Tryz.func102,Tryz.ntmps102
          go_wp2_with fail
          refine (rGet_any s b 2 L1.out _).mono ?_
          rintro e w' ⟨rfl,rfl⟩
          rw [G.out]
          go_wp2_with fail
          have q13 := Q13.out
          go_region_held3 (fun _ => True) (trivial) ((first | (go_at_call 94;refine (rSum_any _ HX.out _).mono ?_;rintro e w1 ⟨rfl,rfl⟩) | (go_at_call 93;refine (rBack_any _ (sumS_lt _) _).mono ?_;rintro e w1 ⟨rfl,hb1⟩)))
          clear q13
          go_wp2
          go_ret3
          exact ⟨ret_v H.out.symm,nd hb1⟩
        · have H : Hid (openV s b = _) := lH (openV_no (x := 4) (by unfold openE;rw [if_pos h1,Int.toNat_natCast,if_pos h2,if_pos h3,if_neg h4]) (by decide))
          have h4 : ((leS (sumS (s.extract b (b + 2 + dec s b 2)))).toList == (s.extract (b + 2 + dec s b 2) (b + 2 + dec s b 2 + 4)).toList) = false := by
            have h5 := h4
            unfold sumOK at h5;rw [Bool.not_eq_true,beq_eq_false_iff_ne] at h5;rw [beq_eq_false_iff_ne];exact fun e => h5 e.symm
          clear h1
          go_enter Tryz.func102,Tryz.ntmps102
          go_wp2_with fail
          refine (rGet_any s b 2 L1.out _).mono ?_
          rintro e w' ⟨rfl,rfl⟩
          rw [G.out]
          go_wp2_with fail
          have q13 := Q13.out
          go_region_held3 (fun _ => True) (trivial) ((first | (go_at_call 94;refine (rSum_any _ HX.out _).mono ?_;rintro e w1 ⟨rfl,rfl⟩) | (go_at_call 93;refine (rBack_any _ (sumS_lt _) _).mono ?_;rintro e w1 ⟨rfl,hb1⟩)))
          clear q13
          go_wp2
          go_ret3
          exact ⟨ret_v H.out.symm,nd hb1⟩
      · have H : Hid (openV s b = _) := lH (openV_no (x := 2) (by unfold openE;rw [if_pos h1,Int.toNat_natCast,if_pos h2,if_neg h3]) (by decide))
        clear h1
        go_enter Tryz.func102,Tryz.ntmps102
        go_wp2_with fail
        refine (rGet_any s b 2 L1.out _).mono ?_
        rintro e w' ⟨rfl,rfl⟩
        rw [G.out]
        go_wp2
        go_ret3
        exact ⟨ret_v H.out.symm,Below.refl _ _⟩
    · have H : Hid (openV s b = _) := lH (openV_no (x := 5) (by unfold openE;rw [if_pos h1,Int.toNat_natCast,if_neg h2]) (by decide))
      clear h1
      go_enter Tryz.func102,Tryz.ntmps102
      go_wp2_with fail
      refine (rGet_any s b 2 L1.out _).mono ?_
      rintro e w' ⟨rfl,rfl⟩
      rw [G.out]
      go_wp2
      go_ret3
      exact ⟨ret_v H.out.symm,Below.refl _ _⟩
  · have H : Hid (openV s a = _) := lH (openV_no (x := getE s a 2) (by unfold openE;rw [if_neg h1]) h1)
    have h1' : (getE s a 2 != 0) = true := by simpa using h1
    have h1'' : (getE s a 2 == 0) = false := by simpa using h1
    go_enter Tryz.func102,Tryz.ntmps102
    go_wp2_with fail
    refine (rGet_s _ s a 2 L1.out).mono ?_
    rintro e w' ⟨rfl,rfl⟩
    go_wp2
    go_ret3
    exact ⟨ret_v H.out.symm,Below.refl _ _⟩
end Go.Proofs.YtnnbjhpkgndclaaGreatDoor.Cr
namespace Go.Proofs.YtnnbjhpkgndclaaGreatDoor.Fx
open Go.RowKit
theorem app_list (a b : ByteArray) : (a ++ b).data.toList = a.data.toList ++ b.data.toList := by simp [ByteArray.data_append]
theorem dec_app (x : ByteArray) (p q : List UInt8) (u k : Nat) (hx : x.data.toList = p ++ (bl u k ++ q)) (h : u < 256 ^ k) : dec x p.length k = u := by
  have e := dec_of x p.length u k (fun i hi => by
    rw [hx,List.getD_eq_getElem?_getD,List.getElem?_append_right (by omega),show p.length + i - p.length = i by omega,List.getElem?_append_left (by rw [bl_length];exact hi),← List.getD_eq_getElem?_getD,bl_at _ _ _ hi]) k (Nat.le_refl _)
  rw [e,Nat.sub_self,Nat.pow_zero,Nat.div_one,Nat.mod_eq_of_lt h]
theorem size_len (s : ByteArray) : s.data.toList.length = s.size := by rw [Array.length_toList];rfl
end Go.Proofs.YtnnbjhpkgndclaaGreatDoor.Fx
namespace Go.Proofs.YtnnbjhpkgndclaaGreatDoor.Cr
open Go.RowKit
open Go.Proofs.YtnnbjhpkgndclaaGreatDoor.Fx
theorem ba_ext {a b : ByteArray} (h : a.data.toList = b.data.toList) : a = b := ByteArray.ext (Array.ext' h)
theorem toL (s : ByteArray) : s.toList = s.data.toList := Lib.toList_data s
theorem frm_data (s : ByteArray) : (frm s).data.toList = bl s.size 2 ++ (s.data.toList ++ le4 (sumS (body s))) := by
  unfold frm body
  rw [app_list,app_list,enc_data,leS_data,List.append_assoc]
theorem body_data (s : ByteArray) : (body s).data.toList = bl s.size 2 ++ s.data.toList := by
  unfold body
  rw [app_list,enc_data]
theorem bl2 (n : Nat) : (bl n 2).length = 2 := bl_length n 2
theorem le4_len (v : Nat) : (le4 v).length = 4 := rfl
theorem getE_in (s : ByteArray) (b : Nat) (h : b + 2 ≤ s.size) : getE s b 2 = 0 := by
  have ho : oB s b = true := by unfold oB;simp;omega
  unfold getE;rw [ho,show wB 2 = true from rfl,show (true && true) = true from rfl,if_pos rfl,if_pos (by omega)]
theorem getE_out (s : ByteArray) (b : Nat) (h : b ≤ s.size) (h2 : s.size < b + 2) : getE s b 2 = 2 := by
  have ho : oB s b = true := by unfold oB;simp;omega
  unfold getE;rw [ho,show wB 2 = true from rfl,show (true && true) = true from rfl,if_pos rfl,if_neg (by omega)]
theorem open_mid (p q s : ByteArray) (h : s.size ≤ 2000) : openE (p ++ frm s ++ q) p.size = 0 ∧ openS (p ++ frm s ++ q) p.size = s ∧ openA (p ++ frm s ++ q) p.size = p.size + (frm s).size := by
  have hf := frm_size s
  have hsz : (p ++ frm s ++ q).size = p.size + (s.size + 6) + q.size := by rw [ByteArray.size_append,ByteArray.size_append,hf]
  have hl : (p ++ frm s ++ q).data.toList = p.data.toList ++ (bl s.size 2 ++ (s.data.toList ++ (le4 (sumS (body s)) ++ q.data.toList))) := by
    rw [app_list,app_list,frm_data];simp only [List.append_assoc]
  have hd : dec (p ++ frm s ++ q) p.size 2 = s.size := by
    have h1 := dec_app _ _ _ s.size 2 hl (by omega)
    rwa [size_len] at h1
  have hg := getE_in (p ++ frm s ++ q) p.size (by omega)
  have e1 : (p ++ frm s ++ q).extract (p.size + 2 + s.size) (p.size + 2 + s.size + 4) = leS (sumS (body s)) := by
    apply ba_ext
    rw [Lib.extract_data,hl,leS_data]
    have e : p.data.toList ++ (bl s.size 2 ++ (s.data.toList ++ (le4 (sumS (body s)) ++ q.data.toList))) = (p.data.toList ++ bl s.size 2 ++ s.data.toList) ++ (le4 (sumS (body s)) ++ q.data.toList) := by simp only [List.append_assoc]
    rw [e,List.drop_left' (by rw [List.length_append,List.length_append,size_len,size_len,bl2]),List.take_left' (by rw [le4_len];omega)]
  have e2 : (p ++ frm s ++ q).extract p.size (p.size + 2 + s.size) = body s := by
    apply ba_ext
    rw [Lib.extract_data,hl,body_data,List.drop_left' (by rw [size_len])]
    rw [← List.append_assoc,List.take_left' (by rw [List.length_append,size_len,bl2];omega)]
  have e3 : (p ++ frm s ++ q).extract (p.size + 2) (p.size + 2 + s.size) = s := by
    apply ba_ext
    rw [Lib.extract_data,hl]
    rw [← List.append_assoc,List.drop_left' (by rw [List.length_append,size_len,bl2]),List.take_left' (by rw [size_len];omega)]
  have hok : sumOK (p ++ frm s ++ q) p.size s.size = true := by
    unfold sumOK;rw [e1,e2];exact beq_self_eq_true _
  have ho : openE (p ++ frm s ++ q) p.size = 0 := by
    unfold openE;rw [if_pos hg,Int.toNat_natCast,hd,if_pos h,if_pos (by omega),if_pos hok]
  refine ⟨ho,?_,?_⟩
  · unfold openS;rw [if_pos ho,Int.toNat_natCast,hd,e3]
  · unfold openA;rw [if_pos ho,Int.toNat_natCast,hd,hf];omega
theorem openE_zero {s : ByteArray} {a : Int} (h : openE s a = 0) : ∃ b : Nat,a = b ∧ b + 2 + dec s b 2 + 4 ≤ s.size ∧ dec s b 2 ≤ 2000 ∧ sumOK s b (dec s b 2) = true := by
  unfold openE at h
  by_cases h1 : getE s a 2 = 0
  · obtain ⟨b,rfl,hb,_⟩ := getE_zero h1
    rw [if_pos h1,Int.toNat_natCast] at h
    by_cases h2 : dec s b 2 ≤ 2000
    · rw [if_pos h2] at h
      by_cases h3 : b + 2 + dec s b 2 + 4 ≤ s.size
      · rw [if_pos h3] at h
        by_cases h4 : sumOK s b (dec s b 2) = true
        · exact ⟨b,rfl,h3,h2,h4⟩
        · rw [if_neg h4] at h;exact absurd h (by decide)
      · rw [if_neg h3] at h;exact absurd h (by decide)
    · rw [if_neg h2] at h;exact absurd h (by decide)
  · rw [if_neg h1] at h;exact absurd h h1
theorem open_back {s : ByteArray} {a : Int} (h : openE s a = 0) : ∃ b n : Nat,a = b ∧ openA s a = (b + (n + 6) : Nat) ∧ b + (n + 6) ≤ s.size ∧ (openS s a).size = n ∧ n ≤ 2000 ∧ s.extract b (b + (n + 6)) = frm (openS s a) := by
  obtain ⟨b,rfl,h1,h2,h3⟩ := openE_zero h
  have hS : openS s b = s.extract (b + 2) (b + 2 + dec s b 2) := by unfold openS;rw [if_pos h,Int.toNat_natCast]
  have hz : (openS s b).size = dec s b 2 := by rw [hS,ByteArray.size_extract];omega
  refine ⟨b,dec s b 2,rfl,?_,by omega,hz,h2,?_⟩
  · unfold openA;rw [if_pos h,Int.toNat_natCast];omega
  · have e1 : body (openS s b) = s.extract b (b + 2 + dec s b 2) := by
      apply ba_ext
      rw [body_data,hz,bl_dec s b 2 (by omega),hS,Lib.extract_data,Lib.extract_data]
      rw [show b + 2 + dec s b 2 - (b + 2) = dec s b 2 by omega,show b + 2 + dec s b 2 - b = 2 + dec s b 2 by omega,List.take_add,List.drop_drop]
    have e2 : leS (sumS (body (openS s b))) = s.extract (b + 2 + dec s b 2) (b + 2 + dec s b 2 + 4) := by
      rw [e1]
      unfold sumOK at h3
      rw [beq_iff_eq,toL,toL] at h3
      exact (ba_ext h3).symm
    unfold frm
    rw [e2,e1]
    apply ba_ext
    rw [app_list,Lib.extract_data,Lib.extract_data,Lib.extract_data]
    rw [show b + (dec s b 2 + 6) - b = (2 + dec s b 2) + 4 by omega,show b + 2 + dec s b 2 - b = 2 + dec s b 2 by omega,show b + 2 + dec s b 2 + 4 - (b + 2 + dec s b 2) = 4 by omega,List.take_add,List.drop_drop,show b + (2 + dec s b 2) = b + 2 + dec s b 2 by omega]
end Go.Proofs.YtnnbjhpkgndclaaGreatDoor.Cr
namespace Go.Proofs.YtnnbjhpkgndclaaGreatDoor.Wa
open Go.RowKit
open Go.Proofs.YtnnbjhpkgndclaaGreatDoor.Fx
open Go.Proofs.YtnnbjhpkgndclaaGreatDoor.Cr
inductive Sc (s : ByteArray) : Nat → List ByteArray → Nat → Prop
  | nil (a : Nat) : Sc s a [] a
  | cons {a b c : Nat} {l : List ByteArray} : a < s.size → openE s a = 0 → openA s a = (b : Nat) → Sc s b l c → Sc s a (openS s a :: l) c
def Stop (s : ByteArray) (a : Nat) : Prop := ¬ (a < s.size ∧ openE s a = 0)
theorem Sc.snoc {s : ByteArray} {a b c : Nat} {l : List ByteArray} (h : Sc s a l b) (hb : b < s.size) (h0 : openE s b = 0) (hc : openA s b = (c : Nat)) : Sc s a (l ++ [openS s b]) c := by
  induction h with
  | nil a => exact .cons hb h0 hc (.nil _)
  | cons h1 h2 h3 _ ih => exact .cons h1 h2 h3 (ih hb h0 hc)
theorem Sc.one {s : ByteArray} {a b c : Nat} {l m : List ByteArray} (h : Sc s a l b) (h' : Stop s b) (k : Sc s a m c) (k' : Stop s c) : l = m ∧ b = c := by
  induction h generalizing m c with
  | nil a =>
    cases k with
    | nil => exact ⟨rfl,rfl⟩
    | cons h1 h2 => exact absurd ⟨h1,h2⟩ h'
  | cons h1 h2 h3 _ ih =>
    cases k with
    | nil => exact absurd ⟨h1,h2⟩ k'
    | cons k1 k2 k3 k4 =>
      rw [h3] at k3
      have e := Int.ofNat.inj k3
      subst e
      obtain ⟨rfl,rfl⟩ := ih h' k4 k'
      exact ⟨rfl,rfl⟩
theorem next {s : ByteArray} {a : Nat} (h : openE s a = 0) : ∃ b : Nat,openA s a = (b : Nat) ∧ a + 6 ≤ b ∧ b ≤ s.size ∧ b = a + ((openS s a).size + 6) ∧ (openS s a).size ≤ 2000 := by
  obtain ⟨b,n,e,h1,h2,h3,h4,_⟩ := open_back h
  have e := Int.ofNat.inj e
  subst e
  exact ⟨_,h1,by omega,h2,by omega,by omega⟩
def laid : List ByteArray → ByteArray
  | [] => ByteArray.empty
  | x :: l => frm x ++ laid l
def wl : List ByteArray → Nat
  | [] => 0
  | x :: l => x.size + 6 + wl l
theorem laid_size (l : List ByteArray) : (laid l).size = wl l := by
  induction l with
  | nil => rfl
  | cons x l ih => rw [laid,wl,ByteArray.size_append,frm_size,ih]
theorem wl_append (l m : List ByteArray) : wl (l ++ m) = wl l + wl m := by
  induction l with
  | nil => simp [wl]
  | cons x l ih => rw [List.cons_append,wl,wl,ih];omega
theorem laid_append (l m : List ByteArray) : laid (l ++ m) = laid l ++ laid m := by
  induction l with
  | nil => simp [laid]
  | cons x l ih => rw [List.cons_append,laid,laid,ih,ByteArray.append_assoc]
theorem wl_take (l : List ByteArray) (k : Nat) : wl (l.take k) + wl (l.drop k) = wl l := by rw [← wl_append,List.take_append_drop]
theorem wl_snoc {l : List ByteArray} {k : Nat} (h : k < l.length) : wl (l.take (k + 1)) = wl (l.take k) + (l[k].size + 6) := by
  rw [List.take_succ_eq_append_getElem h,wl_append];simp [wl]
def Short (l : List ByteArray) : Prop := ∀ x ∈ l,x.size ≤ 2000
theorem sc_laid (l : List ByteArray) (hs : Short l) (p q : ByteArray) : Sc (p ++ laid l ++ q) p.size l (p.size + wl l) := by
  induction l generalizing p with
  | nil => exact .nil _
  | cons x l ih =>
    have hx : x.size ≤ 2000 := hs x List.mem_cons_self
    have e : p ++ laid (x :: l) ++ q = p ++ frm x ++ (laid l ++ q) := by rw [laid];simp only [ByteArray.append_assoc]
    obtain ⟨h1,h2,h3⟩ := open_mid p (laid l ++ q) x hx
    have h4 := ih (fun y hy => hs y (List.mem_cons_of_mem _ hy)) (p ++ frm x)
    rw [show p ++ frm x ++ laid l ++ q = p ++ frm x ++ (laid l ++ q) from ByteArray.append_assoc] at h4
    have hz : (p ++ frm x).size = p.size + (x.size + 6) := by rw [ByteArray.size_append,frm_size]
    have hlt : p.size < (p ++ frm x ++ (laid l ++ q)).size := by rw [ByteArray.size_append,hz];omega
    rw [hz] at h4
    rw [← e] at h1 h2 h3 h4 hlt
    have h5 := Sc.cons hlt h1 (by rw [h3,frm_size];omega) h4
    rw [h2] at h5
    rw [wl,show p.size + (x.size + 6 + wl l) = p.size + (x.size + 6) + wl l by omega]
    exact h5
theorem stop_end (s : ByteArray) : Stop s s.size := fun h => Nat.lt_irrefl _ h.1
theorem sc_all (l : List ByteArray) (hs : Short l) : Sc (laid l) 0 l (laid l).size ∧ Stop (laid l) (laid l).size := by
  have h := sc_laid l hs ByteArray.empty ByteArray.empty
  rw [ByteArray.append_empty,ByteArray.empty_append,show ByteArray.empty.size = 0 from rfl,Nat.zero_add,← laid_size] at h
  exact ⟨h,stop_end _⟩
theorem cut_mid (p x : ByteArray) (c : Nat) (h : x.size ≤ 2000) (hc : c < x.size + 6) : Stop (p ++ (frm x).extract 0 c) p.size := by
  intro ⟨h1,h0⟩
  have hf := frm_size x
  have hsz : (p ++ (frm x).extract 0 c).size = p.size + c := by rw [ByteArray.size_append,ByteArray.size_extract,hf];omega
  by_cases h2 : c < 2
  · unfold openE at h0
    rw [getE_out _ p.size (by omega) (by omega),if_neg (by decide)] at h0
    exact absurd h0 (by decide)
  · have hl : (p ++ (frm x).extract 0 c).data.toList = p.data.toList ++ (bl x.size 2 ++ (x.data.toList ++ le4 (sumS (body x))).take (c - 2)) := by
      rw [app_list,Lib.extract_data,frm_data,Nat.sub_zero,List.drop_zero,List.take_append,bl2,List.take_of_length_le (by rw [bl2];omega)]
    have hd : dec (p ++ (frm x).extract 0 c) p.size 2 = x.size := by
      have h3 := dec_app _ _ _ x.size 2 hl (by omega)
      rwa [size_len] at h3
    unfold openE at h0
    rw [if_pos (getE_in _ p.size (by omega)),Int.toNat_natCast,hd,if_pos h,if_neg (by omega)] at h0
    exact absurd h0 (by decide)
theorem ext_app (a b : ByteArray) (k : Nat) : (a ++ b).extract 0 (a.size + k) = a ++ b.extract 0 k := by
  apply ba_ext
  rw [Lib.extract_data,app_list,app_list,Lib.extract_data]
  simp only [List.drop_zero,Nat.sub_zero]
  rw [List.take_append,size_len,List.take_of_length_le (by rw [size_len];omega),Nat.add_sub_cancel_left]
theorem ext_app_le (a b : ByteArray) (k : Nat) (h : k ≤ a.size) : (a ++ b).extract 0 k = a.extract 0 k := by
  apply ba_ext
  rw [Lib.extract_data,app_list,Lib.extract_data]
  simp only [List.drop_zero,Nat.sub_zero]
  rw [List.take_append_of_le_length (by rw [size_len];exact h)]
theorem ext_all (a : ByteArray) : a.extract 0 a.size = a := by
  apply ba_ext
  rw [Lib.extract_data]
  simp only [List.drop_zero,Nat.sub_zero]
  rw [List.take_of_length_le (by rw [size_len];exact Nat.le_refl _)]
theorem sc_cut (l : List ByteArray) (hs : Short l) (k i : Nat) (hi : i ≤ l.length) (h1 : wl (l.take i) ≤ k) (h2 : ∀ h : i < l.length,k < wl (l.take i) + (l[i].size + 6)) (hk : k ≤ wl l) :
    Sc ((laid l).extract 0 k) 0 (l.take i) (wl (l.take i)) ∧ Stop ((laid l).extract 0 k) (wl (l.take i)) := by
  have hst : Short (l.take i) := fun x hx => hs x (List.mem_of_mem_take hx)
  have e : laid l = laid (l.take i) ++ laid (l.drop i) := by rw [← laid_append,List.take_append_drop]
  have e2 : (laid l).extract 0 k = laid (l.take i) ++ (laid (l.drop i)).extract 0 (k - wl (l.take i)) := by
    have h3 := ext_app (laid (l.take i)) (laid (l.drop i)) (k - wl (l.take i))
    rw [laid_size,show wl (l.take i) + (k - wl (l.take i)) = k by omega,← e] at h3
    exact h3
  have h4 := sc_laid (l.take i) hst ByteArray.empty ((laid (l.drop i)).extract 0 (k - wl (l.take i)))
  rw [ByteArray.empty_append,show ByteArray.empty.size = 0 from rfl,Nat.zero_add,← e2] at h4
  refine ⟨h4,?_⟩
  rw [e2]
  by_cases h : i < l.length
  · have h5 := h2 h
    have e3 : l.drop i = l[i] :: l.drop (i + 1) := List.drop_eq_getElem_cons h
    rw [e3,laid,ext_app_le _ _ _ (by rw [frm_size];omega)]
    have h6 := cut_mid (laid (l.take i)) l[i] (k - wl (l.take i)) (hs _ (List.getElem_mem h)) (by omega)
    rwa [laid_size] at h6
  · have e4 : i = l.length := by omega
    subst e4
    rw [List.drop_length,laid,show (ByteArray.empty : ByteArray).extract 0 (k - wl (l.take l.length)) = ByteArray.empty from ba_ext (by rw [Lib.extract_data];simp),ByteArray.append_empty]
    have h7 := stop_end (laid (l.take l.length))
    rwa [laid_size] at h7
theorem sc_back {s : ByteArray} {a b : Nat} {l : List ByteArray} (h : Sc s a l b) (ha : a ≤ s.size) : Short l ∧ a ≤ b ∧ b ≤ s.size ∧ b = a + wl l ∧ s.extract a b = laid l := by
  induction h with
  | nil a => exact ⟨fun x hx => (by cases hx),Nat.le_refl _,ha,rfl,ba_ext (by rw [Lib.extract_data];simp [laid])⟩
  | @cons a b c l h1 h2 h3 _ ih =>
    obtain ⟨b',n,e,k1,k2,k3,k4,k5⟩ := open_back h2
    have e := Int.ofNat.inj e
    subst e
    rw [k1] at h3
    have e2 := Int.ofNat.inj h3
    subst e2
    obtain ⟨i1,i2,i3,i4,i5⟩ := ih k2
    refine ⟨fun x hx => ?_,by omega,i3,by rw [wl,k3];omega,?_⟩
    · rcases List.mem_cons.1 hx with rfl | hx
      · omega
      · exact i1 x hx
    · rw [laid,← k5,← i5]
      apply ba_ext
      rw [app_list,Lib.extract_data,Lib.extract_data,Lib.extract_data]
      rw [show c - a = (a + (n + 6) - a) + (c - (a + (n + 6))) by omega,List.take_add,List.drop_drop,show a + (a + (n + 6) - a) = a + (n + 6) by omega]
def scanN (s : ByteArray) : Nat → Nat → List ByteArray × Nat
  | 0,a => ([],a)
  | k + 1,a => if a < s.size ∧ openE s a = 0 then (openS s a :: (scanN s k (openA s a).toNat).1,(scanN s k (openA s a).toNat).2) else ([],a)
theorem scanN_spec (s : ByteArray) (k a : Nat) (h : s.size < a + k) : Sc s a (scanN s k a).1 (scanN s k a).2 ∧ Stop s (scanN s k a).2 := by
  induction k generalizing a with
  | zero => exact ⟨.nil _,fun h' => by have h2 : a < s.size := h'.1;omega⟩
  | succ k ih =>
    by_cases h1 : a < s.size ∧ openE s a = 0
    · obtain ⟨b,e,h2,h3,_⟩ := next h1.2
      obtain ⟨i1,i2⟩ := ih b (by omega)
      rw [scanN,if_pos h1,e,Int.toNat_natCast]
      exact ⟨.cons h1.1 h1.2 e i1,i2⟩
    · rw [scanN,if_neg h1]
      exact ⟨.nil _,h1⟩
def scan (s : ByteArray) : List ByteArray × Nat := scanN s (s.size + 1) 0
theorem scan_spec (s : ByteArray) : Sc s 0 (scan s).1 (scan s).2 ∧ Stop s (scan s).2 := scanN_spec s _ 0 (by omega)
theorem scan_is {s : ByteArray} {l : List ByteArray} {a : Nat} (h : Sc s 0 l a ∧ Stop s a) : scan s = (l,a) := by
  obtain ⟨h1,h2⟩ := scan_spec s
  obtain ⟨e1,e2⟩ := Sc.one h1 h2 h.1 h.2
  exact Prod.ext e1 e2
theorem many_wl (l : List ByteArray) : l.length * 6 ≤ wl l := by
  induction l with
  | nil => simp
  | cons x l ih => rw [wl,List.length_cons];omega
theorem Sc.many {s : ByteArray} {a b : Nat} {l : List ByteArray} (h : Sc s a l b) (ha : a ≤ s.size) : l.length * 6 ≤ b - a := by
  obtain ⟨_,h1,_,h2,_⟩ := sc_back h ha
  have := many_wl l
  omega
def layN (a : ByteArray) : List ByteArray → ByteArray × Int
  | [] => (a,0)
  | x :: l => if x.size ≤ 2000 then (if a.size + (x.size + 6) ≤ 60000 then layN (a ++ frm x) l else (ByteArray.empty,10)) else (ByteArray.empty,5)
theorem layN_ok (a : ByteArray) (l : List ByteArray) (h : (layN a l).2 = 0) : (layN a l).1 = a ++ laid l ∧ Short l := by
  induction l generalizing a with
  | nil => exact ⟨by simp [layN,laid],fun x hx => by cases hx⟩
  | cons x l ih =>
    rw [layN] at h ⊢
    by_cases h1 : x.size ≤ 2000
    · rw [if_pos h1] at h ⊢
      by_cases h2 : a.size + (x.size + 6) ≤ 60000
      · rw [if_pos h2] at h ⊢
        obtain ⟨i1,i2⟩ := ih _ h
        refine ⟨by rw [i1,laid,ByteArray.append_assoc],fun y hy => ?_⟩
        rcases List.mem_cons.1 hy with rfl | hy
        · exact h1
        · exact i2 y hy
      · rw [if_neg h2] at h;exact absurd h (by decide)
    · rw [if_neg h1] at h;exact absurd h (by decide)
theorem layN_max (a : ByteArray) (l : List ByteArray) (ha : a.size ≤ 60000) : (layN a l).1.size ≤ 60000 := by
  induction l generalizing a with
  | nil => exact ha
  | cons x l ih =>
    rw [layN]
    by_cases h1 : x.size ≤ 2000
    · rw [if_pos h1]
      by_cases h2 : a.size + (x.size + 6) ≤ 60000
      · rw [if_pos h2];exact ih _ (by rw [ByteArray.size_append,frm_size];exact h2)
      · rw [if_neg h2];exact Nat.zero_le _
    · rw [if_neg h1];exact Nat.zero_le _
def fitsN (r : Int) : List ByteArray → Bool
  | [] => decide (0 ≤ r)
  | x :: l => if x.size ≤ 2000 ∧ (x.size : Int) + 6 ≤ r then fitsN (r - ((x.size : Int) + 6)) l else false
theorem fitsN_is (r : Int) (l : List ByteArray) (hs : Short l) : fitsN r l = decide ((wl l : Int) ≤ r) := by
  induction l generalizing r with
  | nil => rfl
  | cons x l ih =>
    have hx : x.size ≤ 2000 := hs x List.mem_cons_self
    rw [fitsN,wl]
    by_cases h : (x.size : Int) + 6 ≤ r
    · rw [if_pos ⟨hx,h⟩,ih _ (fun y hy => hs y (List.mem_cons_of_mem _ hy))]
      congr 1
      apply propext
      constructor <;> intro h' <;> omega
    · rw [if_neg (fun h' => h h'.2)]
      symm
      rw [decide_eq_false_iff_not]
      omega
end Go.Proofs.YtnnbjhpkgndclaaGreatDoor.Wa
namespace Go.Proofs.YtnnbjhpkgndclaaGreatDoor.Cr
open Go.RowKit
abbrev laid1 : List (String × DataW Unit) := [("cambist/crc.halfSums",Rows.laid_cambist_crc_halfSums)]
theorem gT : Tryz.prog.globalNamed "cambist/crc.halfSums" = some 2 := by kernel_rfl
theorem gTType : (Tryz.prog.globals[2]?).map (·.type) = some 187 := by kernel_rfl
theorem cellsE : Tryz.prog.cellsOf 169 = 1 := by kernel_rfl
theorem cellsT : Tryz.prog.cellsOf 187 = 16 := by kernel_rfl
theorem met (os : Os) (args : Array Value) : laidMetH Tryz.prog laid1 ((World.doorLaid Tryz.prog 400 os).forCall (fun _ _ => 0) ⟨#[],args,[]⟩).memory :=
  laidMetH_of_parts3 (fuel := 8) (laidMet_of_run' 8 (by kernel_rfl) (by kernel_rfl)) (by kernel_rfl) (by kernel_rfl)
theorem tab_of {W : World} (h : laidMetH Tryz.prog laid1 W) : Tab W := by
  rw [MakeChecks.laidMetH_plain _ _ _ (by kernel_rfl)] at h
  have hT := Lib.tabIs_of_head (k := .u32) (zs := tab) (rest := []) gT gTType Tryz.underlying187 Tryz.underlying169 cellsE cellsT h
  intro i hi
  have h2 := hT.cell gT i hi
  rwa [tab_at i hi] at h2
end Go.Proofs.YtnnbjhpkgndclaaGreatDoor.Cr
