/- Plain mathematics: a command that is written is read, wherever it stands; what is read, written, is those bytes. -/
import Derived.Test.YtngnkjbcnmcngaaDoorCmJ
import Derived.Test.YtngnkjbcnmcngaaDoorFxOrd
namespace Go.Proofs.YtngnkjbcnmcngaaDoor.Cm
open Go.RowKit
set_option linter.unusedVariables false
open Go.Proofs.YtngnkjbcnmcngaaDoor.Fx (dec dec_lt enc enc_size enc_data bl bl_length bl_at bl_dec dec_of oB)
theorem app_list (a b : ByteArray) : (a ++ b).data.toList = a.data.toList ++ b.data.toList := by simp [ByteArray.data_append]
theorem size_len (s : ByteArray) : s.data.toList.length = s.size := by rw [Array.length_toList]; rfl
theorem dec_app (x : ByteArray) (p q : List UInt8) (u k : Nat) (hx : x.data.toList = p ++ (bl u k ++ q)) (h : u < 256 ^ k) : dec x p.length k = u := by
  have e := dec_of x p.length u k (fun i hi => by
    rw [hx, List.getD_eq_getElem?_getD, List.getElem?_append_right (by omega), show p.length + i - p.length = i by omega, List.getElem?_append_left (by rw [bl_length]; exact hi), ← List.getD_eq_getElem?_getD, bl_at _ _ _ hi]) k (Nat.le_refl _)
  rw [e, Nat.sub_self, Nat.pow_zero, Nat.div_one, Nat.mod_eq_of_lt h]
theorem chkB_congr {f g : Nat → Int} (h : ∀ i, i < 9 → f i = g i) : chkB f = chkB g := by
  have e1 : zeroB f = zeroB g := by
    rw [Bool.eq_iff_iff]
    unfold zeroB
    rw [eqF_iff, eqF_iff]
    exact ⟨fun k i hi => by rw [← h i hi]; exact k i hi, fun k i hi => by rw [h i hi]; exact k i hi⟩
  have e2 : limB f = limB g := by
    rw [Bool.eq_iff_iff, lim_eq, lim_eq, h 0 (by omega), h 1 (by omega), h 2 (by omega), h 3 (by omega), h 4 (by omega), h 5 (by omega), h 6 (by omega), h 7 (by omega), h 8 (by omega)]
  unfold chkB; rw [e1, e2]
theorem cat_has (l : Nat → Int) (i j : Nat) (h : i < j) : ∃ q, (catS l j).data.toList = (catS l i).data.toList ++ ((enc (l i) (wd i)).data.toList ++ q) := by
  induction j with
  | zero => omega
  | succ j ih =>
    by_cases e : i = j
    · subst e
      exact ⟨[], by rw [catS, app_list, List.append_nil]⟩
    · obtain ⟨q, hq⟩ := ih (by omega)
      exact ⟨q ++ (enc (l j) (wd j)).data.toList, by rw [catS, app_list, hq, List.append_assoc, List.append_assoc]⟩
theorem num_pos {c : Nat → Int} (h : chkB c = true) (k : Nat) (hk : k < 9) : ∃ u : Nat, numF c k = u ∧ u < 256 ^ wd k := by
  have hf := num_fits h k hk
  unfold Fx.fB at hf
  rw [Int.toNat_natCast] at hf
  simp only [decide_eq_true_eq] at hf
  obtain ⟨u, hu⟩ := Int.eq_ofNat_of_zero_le hf.1
  refine ⟨u, hu, ?_⟩
  have h2 := hf.2
  rw [hu] at h2
  have e : ((256 ^ wd k : Nat) : Int) = 256 ^ wd k := Int.natCast_pow 256 (wd k)
  omega
theorem rd_mid {c : Nat → Int} (h : chkB c = true) (s : ByteArray) (k : Nat) (hk : k < 9) : rdN (s ++ catS (numF c) 9 ++ s) s.size k = numF c k := by
  obtain ⟨u, hu, hlt⟩ := num_pos h k hk
  obtain ⟨q, hq⟩ := cat_has (numF c) k 9 hk
  unfold rdN
  have hp : (s.data.toList ++ (catS (numF c) k).data.toList).length = s.size + pre k := by rw [List.length_append, size_len, size_len, catS_size]
  rw [← hp, dec_app _ (s.data.toList ++ (catS (numF c) k).data.toList) (q ++ s.data.toList) u (wd k) (by
    rw [app_list, app_list, hq, hu, enc_data]
    simp only [List.append_assoc]) hlt, hu]
theorem read_mid {c : Nat → Int} (h : chkB c = true) (s : ByteArray) : fc (readC (s ++ writeS c ++ s) s.size) = fc c ∧ readA (s ++ writeS c ++ s) s.size = s.size + 30 ∧ readE (s ++ writeS c ++ s) s.size = 0 := by
  have ew : writeS c = catS (numF c) 9 := by unfold writeS; rw [h]; rfl
  rw [ew]
  have hz : (s ++ catS (numF c) 9 ++ s).size = s.size + 30 + s.size := by rw [ByteArray.size_append, ByteArray.size_append, catS_size, pre9]
  have hv : ∀ i, i < 9 → rdC (s ++ catS (numF c) 9 ++ s) s.size i = c i := fun i hi => by
    unfold rdC ofF
    rw [rd_mid h s _ (plc_lt i)]
    unfold numF
    rw [fld_plc i hi]
  have hc : chkB (rdC (s ++ catS (numF c) 9 ++ s) s.size) = true := by rw [chkB_congr hv]; exact h
  have hE : readE (s ++ catS (numF c) 9 ++ s) s.size = 0 := by
    unfold readE
    rw [oB_nat, decide_eq_true (by rw [hz]; omega), if_pos rfl, if_pos (by rw [hz]; omega), Int.toNat_natCast, hc]; rfl
  refine ⟨?_, ?_, hE⟩
  · unfold readC; rw [hE, if_pos rfl, Int.toNat_natCast]; exact fc_congr hv
  · unfold readA; rw [hE, if_pos rfl]
theorem catS_congr {l m : Nat → Int} (k : Nat) (h : ∀ i, i < k → l i = m i) : catS l k = catS m k := by
  induction k with
  | zero => rfl
  | succ k ih => rw [catS, catS, ih fun i hi => h i (by omega), h k (by omega)]
theorem ext_list (s : ByteArray) (a b : Nat) : (s.extract a b).data.toList = (s.data.toList.drop a).take (b - a) := Lib.extract_data s a b
theorem cat_rd (s : ByteArray) (b k : Nat) (h : b + pre k ≤ s.size) : (catS (rdN s b) k).data.toList = (s.data.toList.drop b).take (pre k) := by
  induction k with
  | zero => rfl
  | succ k ih =>
    have hp : pre (k + 1) = pre k + wd k := rfl
    rw [hp] at h
    rw [catS, app_list, ih (by omega), hp, List.take_add, List.drop_drop]
    congr 1
    unfold rdN
    rw [enc_data, bl_dec s _ _ (by omega)]
theorem write_rd {s : ByteArray} {a : Int} (h : readE s a = 0) : ∃ b : Nat, a = b ∧ b + 30 ≤ s.size ∧ writeS (readC s a) = s.extract b (b + 30) ∧ chkE (readC s a) = 0 ∧ readA s a = b + 30 := by
  have h' := h
  unfold readE at h
  by_cases h1 : oB s a = true
  · rw [h1, if_pos rfl] at h
    have ho : 0 ≤ a ∧ a ≤ s.size := by simpa [oB] using h1
    obtain ⟨b, rfl⟩ := Int.eq_ofNat_of_zero_le ho.1
    by_cases h2 : 30 ≤ (s.size : Int) - b
    · rw [if_pos h2, Int.toNat_natCast] at h
      have hc : chkB (rdC s b) = true := by
        cases e : chkB (rdC s b)
        · rw [e] at h; exact absurd h (by decide)
        · rfl
      have eC : readC s b = rdC s b := by unfold readC; rw [h', if_pos rfl, Int.toNat_natCast]
      refine ⟨b, rfl, by omega, ?_, by rw [eC]; unfold chkE; rw [hc]; rfl, by unfold readA; rw [h', if_pos rfl]⟩
      rw [eC]
      unfold writeS
      rw [hc, if_pos rfl]
      have e9 : catS (numF (rdC s b)) 9 = catS (rdN s b) 9 := catS_congr 9 fun i hi => by
        unfold numF rdC ofF; rw [plc_fld i hi]
      rw [e9]
      apply ByteArray.ext; apply Array.ext'
      rw [cat_rd s b 9 (by rw [pre9]; omega), ext_list, pre9, Nat.add_sub_cancel_left]
    · rw [if_neg h2] at h; exact absurd h (by decide)
  · rw [if_neg h1] at h; exact absurd h (by decide)
end Go.Proofs.YtngnkjbcnmcngaaDoor.Cm
