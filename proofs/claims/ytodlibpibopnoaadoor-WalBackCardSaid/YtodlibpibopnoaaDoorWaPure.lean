/- Plain mathematics of layer 15: frames one behind the other, and what a scan of any bytes comes to. -/
import Derived.Test.YtodlibpibopnoaaDoorCrMa
namespace Go.Proofs.YtodlibpibopnoaaDoor.Wa
open Go.RowKit
set_option linter.unusedVariables false
open Go.Proofs.YtodlibpibopnoaaDoor.Fx
open Go.Proofs.YtodlibpibopnoaaDoor.Cr
/-- From a on the frames of s hold the loads l; the last one ends at b. -/
inductive Sc (s : ByteArray) : Nat → List ByteArray → Nat → Prop
  | nil (a : Nat) : Sc s a [] a
  | cons {a b c : Nat} {l : List ByteArray} : a < s.size → openE s a = 0 → openA s a = (b : Nat) → Sc s b l c → Sc s a (openS s a :: l) c
/-- A scan goes no farther than a. -/
def Stop (s : ByteArray) (a : Nat) : Prop := ¬ (a < s.size ∧ openE s a = 0)
theorem Sc.snoc {s : ByteArray} {a b c : Nat} {l : List ByteArray} (h : Sc s a l b) (hb : b < s.size) (h0 : openE s b = 0) (hc : openA s b = (c : Nat)) : Sc s a (l ++ [openS s b]) c := by
  induction h with
  | nil a => exact .cons hb h0 hc (.nil _)
  | cons h1 h2 h3 _ ih => exact .cons h1 h2 h3 (ih hb h0 hc)
theorem Sc.one {s : ByteArray} {a b c : Nat} {l m : List ByteArray} (h : Sc s a l b) (h' : Stop s b) (k : Sc s a m c) (k' : Stop s c) : l = m ∧ b = c := by
  induction h generalizing m c with
  | nil a =>
    cases k with
    | nil => exact ⟨rfl, rfl⟩
    | cons h1 h2 => exact absurd ⟨h1, h2⟩ h'
  | cons h1 h2 h3 _ ih =>
    cases k with
    | nil => exact absurd ⟨h1, h2⟩ k'
    | cons k1 k2 k3 k4 =>
      rw [h3] at k3
      have e := Int.ofNat.inj k3
      subst e
      obtain ⟨rfl, rfl⟩ := ih h' k4 k'
      exact ⟨rfl, rfl⟩
theorem Sc.app {s : ByteArray} {a b c : Nat} {l m : List ByteArray} (h : Sc s a l b) (k : Sc s b m c) : Sc s a (l ++ m) c := by
  induction h with
  | nil a => exact k
  | cons h1 h2 h3 _ ih => exact .cons h1 h2 h3 (ih k)
/-- The frame at a ends further on, within s. -/
theorem next {s : ByteArray} {a : Nat} (h : openE s a = 0) : ∃ b : Nat, openA s a = (b : Nat) ∧ a + 6 ≤ b ∧ b ≤ s.size ∧ b = a + ((openS s a).size + 6) ∧ (openS s a).size ≤ 2000 := by
  obtain ⟨b, n, e, h1, h2, h3, h4, _⟩ := open_back h
  have e := Int.ofNat.inj e
  subst e
  exact ⟨_, h1, by omega, h2, by omega, by omega⟩
/-- The bytes of the frames of l. -/
def laid : List ByteArray → ByteArray
  | [] => ByteArray.empty
  | x :: l => frm x ++ laid l
/-- How many they are. -/
def wl : List ByteArray → Nat
  | [] => 0
  | x :: l => x.size + 6 + wl l
theorem laid_size (l : List ByteArray) : (laid l).size = wl l := by
  induction l with
  | nil => rfl
  | cons x l ih => rw [laid, wl, ByteArray.size_append, frm_size, ih]
theorem wl_append (l m : List ByteArray) : wl (l ++ m) = wl l + wl m := by
  induction l with
  | nil => simp [wl]
  | cons x l ih => rw [List.cons_append, wl, wl, ih]; omega
theorem laid_append (l m : List ByteArray) : laid (l ++ m) = laid l ++ laid m := by
  induction l with
  | nil => simp [laid]
  | cons x l ih => rw [List.cons_append, laid, laid, ih, ByteArray.append_assoc]
theorem wl_take (l : List ByteArray) (k : Nat) : wl (l.take k) + wl (l.drop k) = wl l := by rw [← wl_append, List.take_append_drop]
theorem wl_snoc {l : List ByteArray} {k : Nat} (h : k < l.length) : wl (l.take (k + 1)) = wl (l.take k) + (l[k].size + 6) := by
  rw [List.take_succ_eq_append_getElem h, wl_append]; simp [wl]
def Short (l : List ByteArray) : Prop := ∀ x ∈ l, x.size ≤ 2000
/-- Behind p and ahead of q the frames of l are scanned. -/
theorem sc_laid (l : List ByteArray) (hs : Short l) (p q : ByteArray) : Sc (p ++ laid l ++ q) p.size l (p.size + wl l) := by
  induction l generalizing p with
  | nil => exact .nil _
  | cons x l ih =>
    have hx : x.size ≤ 2000 := hs x List.mem_cons_self
    have e : p ++ laid (x :: l) ++ q = p ++ frm x ++ (laid l ++ q) := by rw [laid]; simp only [ByteArray.append_assoc]
    obtain ⟨h1, h2, h3⟩ := open_mid p (laid l ++ q) x hx
    have h4 := ih (fun y hy => hs y (List.mem_cons_of_mem _ hy)) (p ++ frm x)
    rw [show p ++ frm x ++ laid l ++ q = p ++ frm x ++ (laid l ++ q) from ByteArray.append_assoc] at h4
    have hz : (p ++ frm x).size = p.size + (x.size + 6) := by rw [ByteArray.size_append, frm_size]
    have hlt : p.size < (p ++ frm x ++ (laid l ++ q)).size := by rw [ByteArray.size_append, hz]; omega
    rw [hz] at h4
    rw [← e] at h1 h2 h3 h4 hlt
    have h5 := Sc.cons hlt h1 (by rw [h3, frm_size]; omega) h4
    rw [h2] at h5
    rw [wl, show p.size + (x.size + 6 + wl l) = p.size + (x.size + 6) + wl l by omega]
    exact h5
theorem stop_end (s : ByteArray) : Stop s s.size := fun h => Nat.lt_irrefl _ h.1
/-- What is laid is scanned, to its end. -/
theorem sc_all (l : List ByteArray) (hs : Short l) : Sc (laid l) 0 l (laid l).size ∧ Stop (laid l) (laid l).size := by
  have h := sc_laid l hs ByteArray.empty ByteArray.empty
  rw [ByteArray.append_empty, ByteArray.empty_append, show ByteArray.empty.size = 0 from rfl, Nat.zero_add, ← laid_size] at h
  exact ⟨h, stop_end _⟩
/-- A frame that is cut off is none, wherever it stands. -/
theorem cut_mid (p x : ByteArray) (c : Nat) (h : x.size ≤ 2000) (hc : c < x.size + 6) : Stop (p ++ (frm x).extract 0 c) p.size := by
  intro ⟨h1, h0⟩
  have hf := frm_size x
  have hsz : (p ++ (frm x).extract 0 c).size = p.size + c := by rw [ByteArray.size_append, ByteArray.size_extract, hf]; omega
  by_cases h2 : c < 2
  · unfold openE at h0
    rw [getE_out _ p.size (by omega) (by omega), if_neg (by decide)] at h0
    exact absurd h0 (by decide)
  · have hl : (p ++ (frm x).extract 0 c).data.toList = p.data.toList ++ (bl x.size 2 ++ (x.data.toList ++ le4 (sumS (body x))).take (c - 2)) := by
      rw [app_list, Lib.extract_data, frm_data, Nat.sub_zero, List.drop_zero, List.take_append, bl2, List.take_of_length_le (by rw [bl2]; omega)]
    have hd : dec (p ++ (frm x).extract 0 c) p.size 2 = x.size := by
      have h3 := dec_app _ _ _ x.size 2 hl (by omega)
      rwa [size_len] at h3
    unfold openE at h0
    rw [if_pos (getE_in _ p.size (by omega)), Int.toNat_natCast, hd, if_pos h, if_neg (by omega)] at h0
    exact absurd h0 (by decide)
theorem ext_app (a b : ByteArray) (k : Nat) : (a ++ b).extract 0 (a.size + k) = a ++ b.extract 0 k := by
  apply ba_ext
  rw [Lib.extract_data, app_list, app_list, Lib.extract_data]
  simp only [List.drop_zero, Nat.sub_zero]
  rw [List.take_append, size_len, List.take_of_length_le (by rw [size_len]; omega), Nat.add_sub_cancel_left]
theorem ext_app_le (a b : ByteArray) (k : Nat) (h : k ≤ a.size) : (a ++ b).extract 0 k = a.extract 0 k := by
  apply ba_ext
  rw [Lib.extract_data, app_list, Lib.extract_data]
  simp only [List.drop_zero, Nat.sub_zero]
  rw [List.take_append_of_le_length (by rw [size_len]; exact h)]
theorem ext_all (a : ByteArray) : a.extract 0 a.size = a := by
  apply ba_ext
  rw [Lib.extract_data]
  simp only [List.drop_zero, Nat.sub_zero]
  rw [List.take_of_length_le (by rw [size_len]; exact Nat.le_refl _)]
/-- Of what is laid and then cut off, just the whole frames are scanned (P15.5). -/
theorem sc_cut (l : List ByteArray) (hs : Short l) (k i : Nat) (hi : i ≤ l.length) (h1 : wl (l.take i) ≤ k) (h2 : ∀ h : i < l.length, k < wl (l.take i) + (l[i].size + 6)) (hk : k ≤ wl l) :
    Sc ((laid l).extract 0 k) 0 (l.take i) (wl (l.take i)) ∧ Stop ((laid l).extract 0 k) (wl (l.take i)) := by
  have hst : Short (l.take i) := fun x hx => hs x (List.mem_of_mem_take hx)
  have e : laid l = laid (l.take i) ++ laid (l.drop i) := by rw [← laid_append, List.take_append_drop]
  have e2 : (laid l).extract 0 k = laid (l.take i) ++ (laid (l.drop i)).extract 0 (k - wl (l.take i)) := by
    have h3 := ext_app (laid (l.take i)) (laid (l.drop i)) (k - wl (l.take i))
    rw [laid_size, show wl (l.take i) + (k - wl (l.take i)) = k by omega, ← e] at h3
    exact h3
  have h4 := sc_laid (l.take i) hst ByteArray.empty ((laid (l.drop i)).extract 0 (k - wl (l.take i)))
  rw [ByteArray.empty_append, show ByteArray.empty.size = 0 from rfl, Nat.zero_add, ← e2] at h4
  refine ⟨h4, ?_⟩
  rw [e2]
  by_cases h : i < l.length
  · have h5 := h2 h
    have e3 : l.drop i = l[i] :: l.drop (i + 1) := List.drop_eq_getElem_cons h
    rw [e3, laid, ext_app_le _ _ _ (by rw [frm_size]; omega)]
    have h6 := cut_mid (laid (l.take i)) l[i] (k - wl (l.take i)) (hs _ (List.getElem_mem h)) (by omega)
    rwa [laid_size] at h6
  · have e4 : i = l.length := by omega
    subst e4
    rw [List.drop_length, laid, show (ByteArray.empty : ByteArray).extract 0 (k - wl (l.take l.length)) = ByteArray.empty from ba_ext (by rw [Lib.extract_data]; simp), ByteArray.append_empty]
    have h7 := stop_end (laid (l.take l.length))
    rwa [laid_size] at h7
/-- What was scanned is laid: the bytes up to where it ends. -/
theorem sc_back {s : ByteArray} {a b : Nat} {l : List ByteArray} (h : Sc s a l b) (ha : a ≤ s.size) : Short l ∧ a ≤ b ∧ b ≤ s.size ∧ b = a + wl l ∧ s.extract a b = laid l := by
  induction h with
  | nil a => exact ⟨fun x hx => (by cases hx), Nat.le_refl _, ha, rfl, ba_ext (by rw [Lib.extract_data]; simp [laid])⟩
  | @cons a b c l h1 h2 h3 _ ih =>
    obtain ⟨b', n, e, k1, k2, k3, k4, k5⟩ := open_back h2
    have e := Int.ofNat.inj e
    subst e
    rw [k1] at h3
    have e2 := Int.ofNat.inj h3
    subst e2
    obtain ⟨i1, i2, i3, i4, i5⟩ := ih k2
    refine ⟨fun x hx => ?_, by omega, i3, by rw [wl, k3]; omega, ?_⟩
    · rcases List.mem_cons.1 hx with rfl | hx
      · omega
      · exact i1 x hx
    · rw [laid, ← k5, ← i5]
      apply ba_ext
      rw [app_list, Lib.extract_data, Lib.extract_data, Lib.extract_data]
      rw [show c - a = (a + (n + 6) - a) + (c - (a + (n + 6))) by omega, List.take_add, List.drop_drop, show a + (a + (n + 6) - a) = a + (n + 6) by omega]
/-- Behind what was scanned, what is laid is scanned too (P15.6). -/
theorem sc_join {s : ByteArray} {a : Nat} {m l : List ByteArray} (h : Sc s 0 m a) (hs : Short l) : Sc (s.extract 0 a ++ laid l) 0 (m ++ l) (a + wl l) ∧ Stop (s.extract 0 a ++ laid l) (a + wl l) := by
  obtain ⟨h1, _, h2, h3, h4⟩ := sc_back h (Nat.zero_le _)
  rw [h4, ← laid_append]
  have h5 := sc_all (m ++ l) (fun x hx => (List.mem_append.1 hx).elim (h1 x) (hs x))
  rw [laid_size, wl_append, show wl m = a by omega] at h5
  exact h5
/-- A scan of any bytes. -/
def scanN (s : ByteArray) : Nat → Nat → List ByteArray × Nat
  | 0, a => ([], a)
  | k + 1, a => if a < s.size ∧ openE s a = 0 then (openS s a :: (scanN s k (openA s a).toNat).1, (scanN s k (openA s a).toNat).2) else ([], a)
theorem scanN_spec (s : ByteArray) (k a : Nat) (h : s.size < a + k) : Sc s a (scanN s k a).1 (scanN s k a).2 ∧ Stop s (scanN s k a).2 := by
  induction k generalizing a with
  | zero => exact ⟨.nil _, fun h' => by have h2 : a < s.size := h'.1; omega⟩
  | succ k ih =>
    by_cases h1 : a < s.size ∧ openE s a = 0
    · obtain ⟨b, e, h2, h3, _⟩ := next h1.2
      obtain ⟨i1, i2⟩ := ih b (by omega)
      rw [scanN, if_pos h1, e, Int.toNat_natCast]
      exact ⟨.cons h1.1 h1.2 e i1, i2⟩
    · rw [scanN, if_neg h1]
      exact ⟨.nil _, h1⟩
def scan (s : ByteArray) : List ByteArray × Nat := scanN s (s.size + 1) 0
theorem scan_spec (s : ByteArray) : Sc s 0 (scan s).1 (scan s).2 ∧ Stop s (scan s).2 := scanN_spec s _ 0 (by omega)
theorem scan_is {s : ByteArray} {l : List ByteArray} {a : Nat} (h : Sc s 0 l a ∧ Stop s a) : scan s = (l, a) := by
  obtain ⟨h1, h2⟩ := scan_spec s
  obtain ⟨e1, e2⟩ := Sc.one h1 h2 h.1 h.2
  exact Prod.ext e1 e2
theorem many_wl (l : List ByteArray) : l.length * 6 ≤ wl l := by
  induction l with
  | nil => simp
  | cons x l ih => rw [wl, List.length_cons]; omega
theorem Sc.many {s : ByteArray} {a b : Nat} {l : List ByteArray} (h : Sc s a l b) (ha : a ≤ s.size) : l.length * 6 ≤ b - a := by
  obtain ⟨_, h1, _, h2, _⟩ := sc_back h ha
  have := many_wl l
  omega
/-- The frames of l behind a, or the error. -/
def layN (a : ByteArray) : List ByteArray → ByteArray × Int
  | [] => (a, 0)
  | x :: l => if x.size ≤ 2000 then (if a.size + (x.size + 6) ≤ 60000 then layN (a ++ frm x) l else (ByteArray.empty, 10)) else (ByteArray.empty, 5)
theorem layN_ok (a : ByteArray) (l : List ByteArray) (h : (layN a l).2 = 0) : (layN a l).1 = a ++ laid l ∧ Short l := by
  induction l generalizing a with
  | nil => exact ⟨by simp [layN, laid], fun x hx => by cases hx⟩
  | cons x l ih =>
    rw [layN] at h ⊢
    by_cases h1 : x.size ≤ 2000
    · rw [if_pos h1] at h ⊢
      by_cases h2 : a.size + (x.size + 6) ≤ 60000
      · rw [if_pos h2] at h ⊢
        obtain ⟨i1, i2⟩ := ih _ h
        refine ⟨by rw [i1, laid, ByteArray.append_assoc], fun y hy => ?_⟩
        rcases List.mem_cons.1 hy with rfl | hy
        · exact h1
        · exact i2 y hy
      · rw [if_neg h2] at h; exact absurd h (by decide)
    · rw [if_neg h1] at h; exact absurd h (by decide)
theorem layN_bad (a : ByteArray) (l : List ByteArray) (h : (layN a l).2 ≠ 0) : (layN a l).1 = ByteArray.empty := by
  induction l generalizing a with
  | nil => exact absurd rfl h
  | cons x l ih =>
    rw [layN] at h ⊢
    by_cases h1 : x.size ≤ 2000
    · rw [if_pos h1] at h ⊢
      by_cases h2 : a.size + (x.size + 6) ≤ 60000
      · rw [if_pos h2] at h ⊢; exact ih _ h
      · rw [if_neg h2]
    · rw [if_neg h1]
/-- What is laid is never more than a disk. -/
theorem layN_max (a : ByteArray) (l : List ByteArray) (ha : a.size ≤ 60000) : (layN a l).1.size ≤ 60000 := by
  induction l generalizing a with
  | nil => exact ha
  | cons x l ih =>
    rw [layN]
    by_cases h1 : x.size ≤ 2000
    · rw [if_pos h1]
      by_cases h2 : a.size + (x.size + 6) ≤ 60000
      · rw [if_pos h2]; exact ih _ (by rw [ByteArray.size_append, frm_size]; exact h2)
      · rw [if_neg h2]; exact Nat.zero_le _
    · rw [if_neg h1]; exact Nat.zero_le _
/-- The frames of l fit into r bytes. -/
def fitsN (r : Int) : List ByteArray → Bool
  | [] => decide (0 ≤ r)
  | x :: l => if x.size ≤ 2000 ∧ (x.size : Int) + 6 ≤ r then fitsN (r - ((x.size : Int) + 6)) l else false
theorem fitsN_is (r : Int) (l : List ByteArray) (hs : Short l) : fitsN r l = decide ((wl l : Int) ≤ r) := by
  induction l generalizing r with
  | nil => rfl
  | cons x l ih =>
    have hx : x.size ≤ 2000 := hs x List.mem_cons_self
    rw [fitsN, wl]
    by_cases h : (x.size : Int) + 6 ≤ r
    · rw [if_pos ⟨hx, h⟩, ih _ (fun y hy => hs y (List.mem_cons_of_mem _ hy))]
      congr 1
      apply propext
      constructor <;> intro h' <;> omega
    · rw [if_neg (fun h' => h h'.2)]
      symm
      rw [decide_eq_false_iff_not]
      omega
/-- The last one of l. -/
def lastS (l : List ByteArray) : ByteArray := l.getLast?.getD ByteArray.empty
theorem lastS_nil : lastS [] = ByteArray.empty := rfl
theorem lastS_at {l : List ByteArray} (h : 0 < l.length) : lastS l = l[l.length - 1] := by
  unfold lastS
  rw [List.getLast?_eq_getElem?, List.getElem?_eq_getElem (by omega)]; rfl
end Go.Proofs.YtodlibpibopnoaaDoor.Wa
