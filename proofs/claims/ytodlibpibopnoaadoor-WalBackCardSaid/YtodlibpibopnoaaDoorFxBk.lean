/- Plain mathematics: what was written is read, wherever it stands. -/
import Derived.Test.YtodlibpibopnoaaDoorFxT
import Derived.Test.YtodlibpibopnoaaDoorFxLOrder
import Derived.OpenShut
import Derived.Lib.Strings
namespace Go.Proofs.YtodlibpibopnoaaDoor.Fx
open Go.RowKit
set_option linter.unusedVariables false
theorem app_list (a b : ByteArray) : (a ++ b).data.toList = a.data.toList ++ b.data.toList := by simp [ByteArray.data_append]
theorem dec_app (x : ByteArray) (p q : List UInt8) (u k : Nat) (hx : x.data.toList = p ++ (bl u k ++ q)) (h : u < 256 ^ k) : dec x p.length k = u := by
  have e := dec_of x p.length u k (fun i hi => by
    rw [hx, List.getD_eq_getElem?_getD, List.getElem?_append_right (by omega), show p.length + i - p.length = i by omega, List.getElem?_append_left (by rw [bl_length]; exact hi), ← List.getD_eq_getElem?_getD, bl_at _ _ _ hi]) k (Nat.le_refl _)
  rw [e, Nat.sub_self, Nat.pow_zero, Nat.div_one, Nat.mod_eq_of_lt h]
theorem size_len (s : ByteArray) : s.data.toList.length = s.size := by rw [Array.length_toList]; rfl
theorem dec_mid (s t : ByteArray) (u k : Nat) (h : u < 256 ^ k) : dec (s ++ enc u k ++ t) s.size k = u := by
  rw [← size_len s]
  exact dec_app _ _ t.data.toList u k (by rw [app_list, app_list, enc_data, List.append_assoc]) h
theorem get_mid {n x : Int} (s : ByteArray) (h : putE n x = 0) : getN (s ++ putS n x ++ s) s.size x = n ∧ getE (s ++ putS n x ++ s) s.size x = 0 ∧ ((putS n x).size : Int) = x := by
  obtain ⟨k, u, rfl, rfl, hk, hk1, hu, e1⟩ := putE_zero h
  have hz := enc_size u k
  have hw : wB k = true := by simp [wB]; omega
  have hsz : (s ++ enc u k ++ s).size = s.size + k + s.size := by rw [ByteArray.size_append, ByteArray.size_append, hz]
  have ho : oB (s ++ enc u k ++ s) s.size = true := by unfold oB; rw [hsz]; simp; omega
  rw [e1]
  refine ⟨?_, ?_, by rw [hz]⟩
  · unfold getN; rw [ho, hw, if_pos (by rfl), if_pos (by rw [hsz]; omega), Int.toNat_natCast, Int.toNat_natCast, dec_mid _ _ _ _ hu]
  · unfold getE; rw [ho, hw, if_pos (by rfl), if_pos (by rw [hsz]; omega)]
theorem getInt_mid (n : Int) (s : ByteArray) (hn : (Lit.int .i64 n).wf = true) :
    getIntN (s ++ enc (IntKind.u64.wrap n) 8 ++ s) s.size = n ∧ getIntE (s ++ enc (IntKind.u64.wrap n) 8 ++ s) s.size = 0 := by
  have hb := bounds_i64 hn
  have hw := u64_lt n
  obtain ⟨u, hu⟩ := Int.eq_ofNat_of_zero_le hw.1
  have hz := enc_size u 8
  rw [hu] at hw ⊢
  have hsz : (s ++ enc u 8 ++ s).size = s.size + 8 + s.size := by rw [ByteArray.size_append, ByteArray.size_append, hz]
  have ho : oB (s ++ enc u 8 ++ s) s.size = true := by unfold oB; rw [hsz]; simp; omega
  have hlt : u < 256 ^ 8 := by
    have : (256 : Nat) ^ 8 = 18446744073709551616 := by decide
    omega
  constructor
  · unfold getIntN; rw [ho, if_pos rfl, if_pos (by rw [hsz]; omega), Int.toNat_natCast, dec_mid _ _ _ _ hlt, ← hu, IntKind.wrap_u64]
    unfold wrap64; omega
  · unfold getIntE; rw [ho, if_pos rfl, if_pos (by rw [hsz]; omega)]
theorem getText_mid (s : ByteArray) (h : s.size ≤ 3000) :
    putTextE s = 0 ∧ getTextS (s ++ putTextS s ++ s) s.size = s ∧ getTextA (s ++ putTextS s ++ s) s.size = s.size + (putTextS s).size ∧ getTextE (s ++ putTextS s ++ s) s.size = 0 := by
  have e0 : putTextS s = enc s.size 2 ++ s := by unfold putTextS; rw [if_pos (by omega)]
  have hz := enc_size s.size 2
  have hlt : s.size < 256 ^ 2 := by omega
  have hd : dec (s ++ (enc s.size 2 ++ s) ++ s) s.size 2 = s.size := by
    have h1 := dec_app (s ++ (enc s.size 2 ++ s) ++ s) s.data.toList (s.data.toList ++ s.data.toList) s.size 2 (by simp only [app_list, enc_data, List.append_assoc]) hlt
    rwa [size_len] at h1
  have hsz : (s ++ (enc s.size 2 ++ s) ++ s).size = s.size + (2 + s.size) + s.size := by rw [ByteArray.size_append, ByteArray.size_append, ByteArray.size_append, hz]
  have ho : oB (s ++ (enc s.size 2 ++ s) ++ s) s.size = true := by unfold oB; rw [hsz]; simp; omega
  have hok : textOK (s ++ (enc s.size 2 ++ s) ++ s) s.size = true := by
    unfold textOK; rw [ho, Int.toNat_natCast, hd, hsz]; simp; omega
  rw [e0]
  refine ⟨by unfold putTextE; rw [if_pos (by omega)], ?_, ?_, ?_⟩
  · unfold getTextS; rw [hok, if_pos rfl, Int.toNat_natCast, hd]
    apply ByteArray.ext; apply Array.ext'
    unfold cut
    rw [Lib.extract_data, app_list, app_list, app_list, enc_data]
    have h2 : (s.data.toList ++ (bl s.size 2 ++ s.data.toList) ++ s.data.toList).drop (s.size + 2) = s.data.toList ++ s.data.toList := by
      have e : s.data.toList ++ (bl s.size 2 ++ s.data.toList) ++ s.data.toList = (s.data.toList ++ bl s.size 2) ++ (s.data.toList ++ s.data.toList) := by simp only [List.append_assoc]
      rw [e, List.drop_left' (by rw [List.length_append, size_len, bl_length])]
    rw [h2, List.take_left' (by rw [size_len]; omega)]
  · unfold getTextA; rw [hok, if_pos rfl, Int.toNat_natCast, hd, ByteArray.size_append, hz]; omega
  · unfold getTextE; rw [ho, if_pos rfl, if_pos (by rw [hsz]; omega), Int.toNat_natCast, hd, if_pos (by omega), if_pos (by rw [hsz]; omega)]
end Go.Proofs.YtodlibpibopnoaaDoor.Fx
