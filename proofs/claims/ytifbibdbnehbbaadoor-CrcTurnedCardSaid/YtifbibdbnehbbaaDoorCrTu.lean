/- Plain mathematics: bits that are turned in a frame. -/
import Derived.Test.YtifbibdbnehbbaaDoorCrMa
namespace Go.Proofs.YtifbibdbnehbbaaDoor.Cr
open Go.RowKit
set_option linter.unusedVariables false
open Go.Proofs.YtifbibdbnehbbaaDoor.Fx
/-- byte i of F with D's bits turned -/
def tb (F : List UInt8) (D i : Nat) : Nat := (F.getD i 0).toNat ^^^ (D / 256 ^ i % 256)
theorem tb_lt (F : List UInt8) (D i : Nat) : tb F D i < 256 := by
  have := (F.getD i 0).toNat_lt
  exact Nat.xor_lt_two_pow (n := 8) (by omega) (by omega)
theorem tb_zero (F : List UInt8) (i : Nat) : tb F 0 i = (F.getD i 0).toNat := by unfold tb; simp
theorem pow256 (i : Nat) : 256 ^ i = 2 ^ (8 * i) := by rw [Nat.pow_mul]
/-- one more bit turned -/
theorem tb_step (F : List UInt8) (D t i : Nat) (hD : D < 2 ^ t) : tb F (D + 2 ^ t) i = if i = t / 8 then tb F D i ^^^ 2 ^ (t % 8) else tb F D i := by
  unfold tb
  rw [pow256]
  by_cases h : i = t / 8
  · subst h
    rw [if_pos rfl, Nat.xor_assoc]
    congr 1
    have ht : 2 ^ t = 2 ^ (8 * (t / 8)) * 2 ^ (t % 8) := by rw [← Nat.pow_add]; congr 1; omega
    have hp : 0 < 2 ^ (8 * (t / 8)) := Nat.pow_pos (by omega)
    have hq : D / 2 ^ (8 * (t / 8)) < 2 ^ (t % 8) := by rw [Nat.div_lt_iff_lt_mul hp, Nat.mul_comm, ← ht]; exact hD
    have h8 : 2 ^ (t % 8) ≤ 2 ^ 7 := Nat.pow_le_pow_right (by omega) (by omega)
    rw [ht, Nat.add_mul_div_left _ _ hp]
    have e := join (t % 8) 1 (D / 2 ^ (8 * (t / 8))) hq
    rw [Nat.mul_one] at e
    rw [Nat.mod_eq_of_lt (a := D / 2 ^ (8 * (t / 8))) (by omega), Nat.mod_eq_of_lt (by omega), Nat.add_comm, e, Nat.xor_comm]
  · rw [if_neg h]
    congr 1
    rcases Nat.lt_or_ge i (t / 8) with h1 | h1
    · have ht : 2 ^ t = 2 ^ (8 * i) * (256 * 2 ^ (t - 8 * i - 8)) := by
        rw [show 256 = 2 ^ 8 from rfl, ← Nat.pow_add, ← Nat.pow_add]; congr 1; omega
      rw [ht, Nat.add_mul_div_left _ _ (Nat.pow_pos (by omega)), Nat.add_mul_mod_self_left]
    · have h2 : 2 ^ t * 2 ≤ 2 ^ (8 * i) := by rw [← Nat.pow_succ]; exact Nat.pow_le_pow_right (by omega) (by omega)
      rw [Nat.div_eq_of_lt (by omega), Nat.div_eq_of_lt (by omega)]
def turnL : List UInt8 → Nat → List UInt8
  | [], _ => []
  | b :: l, D => (b ^^^ UInt8.ofNat (D % 256)) :: turnL l (D / 256)
theorem turnL_length (F : List UInt8) (D : Nat) : (turnL F D).length = F.length := by
  induction F generalizing D with
  | nil => rfl
  | cons b l ih => rw [turnL, List.length_cons, List.length_cons, ih]
theorem turnL_eq (F : List UInt8) (D : Nat) : (List.range F.length).map (fun i => UInt8.ofNat (tb F D i)) = turnL F D := by
  induction F generalizing D with
  | nil => rfl
  | cons b l ih =>
    rw [List.length_cons, List.range_succ_eq_map, List.map_cons, List.map_map, turnL, ← ih]
    congr 1
    · unfold tb
      rw [Nat.pow_zero, Nat.div_one]
      show UInt8.ofNat (b.toNat ^^^ D % 256) = _
      apply UInt8.toNat_inj.1
      rw [UInt8.toNat_ofNat', UInt8.toNat_xor, UInt8.toNat_ofNat', Nat.mod_mod]
      have := b.toNat_lt
      exact Nat.mod_eq_of_lt (Nat.xor_lt_two_pow (n := 8) (by omega) (by omega))
    · apply List.map_congr_left
      intro i _
      show UInt8.ofNat (tb (b :: l) D (i + 1)) = _
      unfold tb
      rw [List.getD_cons_succ, Nat.pow_succ, Nat.mul_comm, ← Nat.div_div_eq_div_mul]
theorem turnL_num (F : List UInt8) (D : Nat) (h : D < 256 ^ F.length) : num (turnL F D) = num F ^^^ D := by
  induction F generalizing D with
  | nil =>
    have : D = 0 := by simpa using h
    subst this; rfl
  | cons b l ih =>
    rw [turnL, num, num, ih (D / 256) (by rw [List.length_cons, Nat.pow_succ] at h; omega), UInt8.toNat_xor, UInt8.toNat_ofNat', two_mul_xor]
    have e : D = 2 ^ 8 * (D / 256) ^^^ D % 256 := by rw [← join 8 _ _ (by omega)]; omega
    conv => rhs; rw [e]
    rw [show D % 256 % 2 ^ 8 = D % 256 by omega]
    ac_rfl
theorem turnL_two (x y : UInt8) (l : List UInt8) (D : Nat) (h : D % 65536 = 0) : turnL (x :: y :: l) D = x :: y :: turnL l (D / 256 / 256) := by
  have e : ∀ z : UInt8, z ^^^ UInt8.ofNat 0 = z := fun z => by
    apply UInt8.toNat_inj.1; rw [UInt8.toNat_xor]; simp
  rw [turnL, turnL, show D % 256 = 0 by omega, show D / 256 % 256 = 0 by omega, e, e]
/-- what a frame with turned bits is opened to -/
theorem turned_open (s X : ByteArray) (first bits : Nat) (hs : s.size ≤ 2000) (h16 : 16 ≤ first) (hf : first + 32 ≤ 8 * (s.size + 6)) (hb : bits < 4294967296) (hb0 : bits ≠ 0)
    (hX : X.data.toList = turnL (frm s).data.toList (2 ^ first * bits)) : openE X 0 = 4 := by
  have hfs := frm_size s
  have hz : X.size = s.size + 6 := by rw [← size_len, hX, turnL_length, size_len, hfs]
  have hD : (2 ^ first * bits) % 65536 = 0 := by
    rw [show first = 16 + (first - 16) by omega, Nat.pow_add, Nat.mul_assoc]
    exact Nat.mul_mod_right _ _
  have hDl : 2 ^ first * bits < 256 ^ (frm s).data.toList.length := by
    rw [size_len, hfs, pow256]
    calc 2 ^ first * bits < 2 ^ first * 2 ^ 32 := Nat.mul_lt_mul_of_pos_left (by omega) (Nat.pow_pos (by omega))
      _ = 2 ^ (first + 32) := by rw [Nat.pow_add]
      _ ≤ _ := Nat.pow_le_pow_right (by omega) hf
  have hd : dec X 0 2 = s.size := by
    have hl : X.data.toList = [] ++ (bl s.size 2 ++ turnL (s.data.toList ++ le4 (sumS (body s))) (2 ^ first * bits / 256 / 256)) := by
      rw [hX, frm_data, List.nil_append]
      have : ∃ x y, bl s.size 2 = [x, y] := ⟨_, _, rfl⟩
      obtain ⟨x, y, e⟩ := this
      rw [e, List.cons_append, List.cons_append, List.nil_append, turnL_two _ _ _ _ hD]; rfl
    exact dec_app X [] _ s.size 2 hl (by omega)
  have hg := getE_in X 0 (by omega)
  show openE X ((0 : Nat) : Int) = 4
  have hn : sumOK X 0 s.size ≠ true := by
    intro h
    unfold sumOK at h
    rw [beq_iff_eq, toL, toL, leS_data] at h
    have hl1 : ((X.extract 0 (0 + 2 + s.size)).data.toList ++ (X.extract (0 + 2 + s.size) (0 + 2 + s.size + 4)).data.toList) = X.data.toList := by
      rw [Lib.extract_data, Lib.extract_data, List.drop_zero]
      rw [show 0 + 2 + s.size - 0 = 0 + 2 + s.size by omega, show 0 + 2 + s.size + 4 - (0 + 2 + s.size) = 4 by omega, ← List.take_add]
      exact List.take_of_length_le (by rw [size_len, hz]; omega)
    have hl2 : (body s).data.toList.length = s.size + 2 := by rw [size_len, body_size]; omega
    refine turned (body s).data.toList (le4 (sumS (body s))) (X.extract 0 (0 + 2 + s.size)).data.toList (X.extract (0 + 2 + s.size) (0 + 2 + s.size + 4)).data.toList rfl ?_ ?_ first bits ?_ hb hb0 rfl ?_ h
    · rw [size_len, ByteArray.size_extract, hl2]; omega
    · rw [size_len, ByteArray.size_extract]; omega
    · rw [hl2]; omega
    · rw [hl1, hX, turnL_num _ _ hDl, frm_data, body_data, List.append_assoc]
  unfold openE
  rw [if_pos hg, Int.toNat_natCast, hd, if_pos hs, if_pos (by omega), if_neg hn]
end Go.Proofs.YtifbibdbnehbbaaDoor.Cr
