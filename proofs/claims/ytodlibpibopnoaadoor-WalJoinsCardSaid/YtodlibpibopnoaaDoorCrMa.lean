/- Plain mathematics: a frame is opened to its load wherever it stands; one that is cut off is too short; what is opened, framed, is those bytes. -/
import Derived.Test.YtodlibpibopnoaaDoorCrT
import Derived.Test.YtodlibpibopnoaaDoorFxBk
namespace Go.Proofs.YtodlibpibopnoaaDoor.Cr
open Go.RowKit
set_option linter.unusedVariables false
open Go.Proofs.YtodlibpibopnoaaDoor.Fx
theorem ba_ext {a b : ByteArray} (h : a.data.toList = b.data.toList) : a = b := ByteArray.ext (Array.ext' h)
theorem toL (s : ByteArray) : s.toList = s.data.toList := Lib.toList_data s
theorem frm_data (s : ByteArray) : (frm s).data.toList = bl s.size 2 ++ (s.data.toList ++ le4 (sumS (body s))) := by
  unfold frm body
  rw [app_list, app_list, enc_data, leS_data, List.append_assoc]
theorem body_data (s : ByteArray) : (body s).data.toList = bl s.size 2 ++ s.data.toList := by
  unfold body
  rw [app_list, enc_data]
theorem bl2 (n : Nat) : (bl n 2).length = 2 := bl_length n 2
theorem le4_len (v : Nat) : (le4 v).length = 4 := rfl
theorem getE_in (s : ByteArray) (b : Nat) (h : b + 2 ≤ s.size) : getE s b 2 = 0 := by
  have ho : oB s b = true := by unfold oB; simp; omega
  unfold getE; rw [ho, show wB 2 = true from rfl, show (true && true) = true from rfl, if_pos rfl, if_pos (by omega)]
theorem getE_out (s : ByteArray) (b : Nat) (h : b ≤ s.size) (h2 : s.size < b + 2) : getE s b 2 = 2 := by
  have ho : oB s b = true := by unfold oB; simp; omega
  unfold getE; rw [ho, show wB 2 = true from rfl, show (true && true) = true from rfl, if_pos rfl, if_neg (by omega)]
/-- what a frame is opened to, in the midst of p and q -/
theorem open_mid (p q s : ByteArray) (h : s.size ≤ 2000) : openE (p ++ frm s ++ q) p.size = 0 ∧ openS (p ++ frm s ++ q) p.size = s ∧ openA (p ++ frm s ++ q) p.size = p.size + (frm s).size := by
  have hf := frm_size s
  have hsz : (p ++ frm s ++ q).size = p.size + (s.size + 6) + q.size := by rw [ByteArray.size_append, ByteArray.size_append, hf]
  have hl : (p ++ frm s ++ q).data.toList = p.data.toList ++ (bl s.size 2 ++ (s.data.toList ++ (le4 (sumS (body s)) ++ q.data.toList))) := by
    rw [app_list, app_list, frm_data]; simp only [List.append_assoc]
  have hd : dec (p ++ frm s ++ q) p.size 2 = s.size := by
    have h1 := dec_app _ _ _ s.size 2 hl (by omega)
    rwa [size_len] at h1
  have hg := getE_in (p ++ frm s ++ q) p.size (by omega)
  have e1 : (p ++ frm s ++ q).extract (p.size + 2 + s.size) (p.size + 2 + s.size + 4) = leS (sumS (body s)) := by
    apply ba_ext
    rw [Lib.extract_data, hl, leS_data]
    have e : p.data.toList ++ (bl s.size 2 ++ (s.data.toList ++ (le4 (sumS (body s)) ++ q.data.toList))) = (p.data.toList ++ bl s.size 2 ++ s.data.toList) ++ (le4 (sumS (body s)) ++ q.data.toList) := by simp only [List.append_assoc]
    rw [e, List.drop_left' (by rw [List.length_append, List.length_append, size_len, size_len, bl2]), List.take_left' (by rw [le4_len]; omega)]
  have e2 : (p ++ frm s ++ q).extract p.size (p.size + 2 + s.size) = body s := by
    apply ba_ext
    rw [Lib.extract_data, hl, body_data, List.drop_left' (by rw [size_len])]
    rw [← List.append_assoc, List.take_left' (by rw [List.length_append, size_len, bl2]; omega)]
  have e3 : (p ++ frm s ++ q).extract (p.size + 2) (p.size + 2 + s.size) = s := by
    apply ba_ext
    rw [Lib.extract_data, hl]
    rw [← List.append_assoc, List.drop_left' (by rw [List.length_append, size_len, bl2]), List.take_left' (by rw [size_len]; omega)]
  have hok : sumOK (p ++ frm s ++ q) p.size s.size = true := by
    unfold sumOK; rw [e1, e2]; exact beq_self_eq_true _
  have ho : openE (p ++ frm s ++ q) p.size = 0 := by
    unfold openE; rw [if_pos hg, Int.toNat_natCast, hd, if_pos h, if_pos (by omega), if_pos hok]
  refine ⟨ho, ?_, ?_⟩
  · unfold openS; rw [if_pos ho, Int.toNat_natCast, hd, e3]
  · unfold openA; rw [if_pos ho, Int.toNat_natCast, hd, hf]; omega
theorem cut_short (s : ByteArray) (c : Nat) (h : s.size ≤ 2000) (hc : c < s.size + 6) : openE ((frm s).extract 0 c) 0 = 2 := by
  have hf := frm_size s
  have hsz : ((frm s).extract 0 c).size = c := by rw [ByteArray.size_extract, hf]; omega
  show openE ((frm s).extract 0 c) ((0 : Nat) : Int) = 2
  by_cases h2 : c < 2
  · unfold openE; rw [getE_out _ 0 (by omega) (by omega), if_neg (by decide)]
  · have hl : ((frm s).extract 0 c).data.toList = [] ++ (bl s.size 2 ++ (s.data.toList ++ le4 (sumS (body s))).take (c - 2)) := by
      rw [Lib.extract_data, frm_data, List.nil_append, Nat.sub_zero, List.drop_zero, List.take_append, bl2, List.take_of_length_le (by rw [bl2]; omega)]
    have hd : dec ((frm s).extract 0 c) 0 2 = s.size := dec_app _ [] _ s.size 2 hl (by omega)
    unfold openE
    rw [if_pos (getE_in _ 0 (by omega)), Int.toNat_natCast, hd, if_pos h, if_neg (by omega)]
theorem openE_zero {s : ByteArray} {a : Int} (h : openE s a = 0) : ∃ b : Nat, a = b ∧ b + 2 + dec s b 2 + 4 ≤ s.size ∧ dec s b 2 ≤ 2000 ∧ sumOK s b (dec s b 2) = true := by
  unfold openE at h
  by_cases h1 : getE s a 2 = 0
  · obtain ⟨b, rfl, hb, _⟩ := getE_zero h1
    rw [if_pos h1, Int.toNat_natCast] at h
    by_cases h2 : dec s b 2 ≤ 2000
    · rw [if_pos h2] at h
      by_cases h3 : b + 2 + dec s b 2 + 4 ≤ s.size
      · rw [if_pos h3] at h
        by_cases h4 : sumOK s b (dec s b 2) = true
        · exact ⟨b, rfl, h3, h2, h4⟩
        · rw [if_neg h4] at h; exact absurd h (by decide)
      · rw [if_neg h3] at h; exact absurd h (by decide)
    · rw [if_neg h2] at h; exact absurd h (by decide)
  · rw [if_neg h1] at h; exact absurd h h1
/-- what is opened, framed, is those bytes -/
theorem open_back {s : ByteArray} {a : Int} (h : openE s a = 0) : ∃ b n : Nat, a = b ∧ openA s a = (b + (n + 6) : Nat) ∧ b + (n + 6) ≤ s.size ∧ (openS s a).size = n ∧ n ≤ 2000 ∧ s.extract b (b + (n + 6)) = frm (openS s a) := by
  obtain ⟨b, rfl, h1, h2, h3⟩ := openE_zero h
  have hS : openS s b = s.extract (b + 2) (b + 2 + dec s b 2) := by unfold openS; rw [if_pos h, Int.toNat_natCast]
  have hz : (openS s b).size = dec s b 2 := by rw [hS, ByteArray.size_extract]; omega
  refine ⟨b, dec s b 2, rfl, ?_, by omega, hz, h2, ?_⟩
  · unfold openA; rw [if_pos h, Int.toNat_natCast]; omega
  · have e1 : body (openS s b) = s.extract b (b + 2 + dec s b 2) := by
      apply ba_ext
      rw [body_data, hz, bl_dec s b 2 (by omega), hS, Lib.extract_data, Lib.extract_data]
      rw [show b + 2 + dec s b 2 - (b + 2) = dec s b 2 by omega, show b + 2 + dec s b 2 - b = 2 + dec s b 2 by omega, List.take_add, List.drop_drop]
    have e2 : leS (sumS (body (openS s b))) = s.extract (b + 2 + dec s b 2) (b + 2 + dec s b 2 + 4) := by
      rw [e1]
      unfold sumOK at h3
      rw [beq_iff_eq, toL, toL] at h3
      exact (ba_ext h3).symm
    unfold frm
    rw [e2, e1]
    apply ba_ext
    rw [app_list, Lib.extract_data, Lib.extract_data, Lib.extract_data]
    rw [show b + (dec s b 2 + 6) - b = (2 + dec s b 2) + 4 by omega, show b + 2 + dec s b 2 - b = 2 + dec s b 2 by omega, show b + 2 + dec s b 2 + 4 - (b + 2 + dec s b 2) = 4 by omega, List.take_add, List.drop_drop, show b + (2 + dec s b 2) = b + 2 + dec s b 2 by omega]
end Go.Proofs.YtodlibpibopnoaaDoor.Cr
