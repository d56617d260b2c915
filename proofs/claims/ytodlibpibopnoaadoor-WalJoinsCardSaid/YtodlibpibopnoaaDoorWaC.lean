/- The document's own of layer 15: Lay, Fits. -/
import Derived.Test.YtodlibpibopnoaaDoorWaB
namespace Go.Proofs.YtodlibpibopnoaaDoor.Wa
open Go.RowKit
set_option linter.unusedVariables false
open Go.Proofs.YtodlibpibopnoaaDoor.Rw
open Go.Proofs.YtodlibpibopnoaaDoor.Da
open Go.Proofs.YtodlibpibopnoaaDoor.Cr
theorem rFrame_yes {s x : ByteArray} (H : Hid (frm s = x)) (hs : s.size ≤ 2000) (w : World) :
    Calls Tryd.prog 24 #[.string s] w fun e w' => e = .returned (.tuple #[.string x, .int .i64 0]) ∧ Below w.heap.size w w' := by
  have h := rFrame_any s (Nat.le_trans hs (by decide)) w
  have e : frameV s = .tuple #[.string x, .int .i64 0] := by unfold frameV frameS frameE; rw [if_pos hs, if_pos hs, H.out]
  first | (rw [e] at h; exact h) | (rw [← e]; exact h)
theorem rFrame_no {s : ByteArray} (h1 : 2000 < s.size) (hs : s.size ≤ maxLen) (w : World) :
    Calls Tryd.prog 24 #[.string s] w fun e w' => e = .returned (.tuple #[.string ByteArray.empty, .int .i64 5]) ∧ Below w.heap.size w w' := by
  have h := rFrame_any s hs w
  have e : frameV s = .tuple #[.string ByteArray.empty, .int .i64 5] := by unfold frameV frameS frameE; rw [if_neg (by omega), if_neg (by omega)]
  first | (rw [e] at h; exact h) | (rw [← e]; exact h)
theorem drop_cons {l : List ByteArray} {k : Nat} (h : k < l.length) : l.drop k = l[k] :: l.drop (k + 1) := List.drop_eq_getElem_cons h
theorem lay_go {s x : ByteArray} {l : List ByteArray} (h1 : x.size ≤ 2000) (h2 : s.size + (x.size + 6) ≤ 60000) : layN s (x :: l) = layN (s ++ frm x) l := by rw [layN, if_pos h1, if_pos h2]
theorem lay_full {s x : ByteArray} {l : List ByteArray} (h1 : x.size ≤ 2000) (h2 : ¬ s.size + (x.size + 6) ≤ 60000) : layN s (x :: l) = (ByteArray.empty, 10) := by rw [layN, if_pos h1, if_neg h2]
theorem lay_big {s x : ByteArray} {l : List ByteArray} (h1 : ¬ x.size ≤ 2000) : layN s (x :: l) = (ByteArray.empty, 5) := by rw [layN, if_neg h1]
/-- What lies at place k of a list, in any world behind. -/
theorem TL.get {n : Nat} {l : List ByteArray} {v : Value} {w wr : World} (h : TL n l v w) (hb : Below w.heap.size w wr) {k : Nat} (hk : k < l.length) : ∃ b off c, v = .slice (some ⟨b, off, none⟩) l.length c ∧ wr.cell? ⟨b, off + k, none⟩ = some (.string l[k]) ∧ b < wr.heap.size := by
  rcases Is.cases eT 9 (h.stays hb) with ⟨e, _⟩ | ⟨_, b, off, c, e, hat⟩
  · subst e; cases hk
  · exact ⟨b, off, c, e, at1 hat k hk, hat.1⟩
set_option maxRecDepth 8000 in
set_option maxHeartbeats 2000000 in
theorem rLay_any (n : Nat) (l : List ByteArray) (v : Value) (w : World) (h : TL n l v w) (hl : l.length ≤ 1000000) (hz : ∀ x ∈ l, x.size ≤ maxLen) :
    Calls Tryd.prog 15 #[v] w fun e w' => e = .returned (.tuple #[.string (layN ByteArray.empty l).1, .int .i64 (layN ByteArray.empty l).2]) ∧ Below w.heap.size w w' := by
  obtain ⟨a1, c1, rfl⟩ := h.len
  obtain ⟨⟨r1, r2⟩, hr⟩ : ∃ q, layN ByteArray.empty l = q := ⟨_, rfl⟩
  have H0 := Lib.hid (show layN ByteArray.empty (l.drop 0) = (r1, r2) from hr)
  rw [hr]
  obtain ⟨m, hm⟩ : ∃ m, l.length = m := ⟨_, rfl⟩
  have HL := Lib.hid h
  have HZ := Lib.hid hz
  have HM := Lib.hid hm
  rw [hm] at hl ⊢
  clear h hz hr hm
  go_enter Tryd.func15, Tryd.ntmps15
  go_wp2
  go_loopw [4, 11] (fun t i wr => ∃ (k : Nat) (s : ByteArray), k ≤ m ∧ i = .int .i64 k ∧ t = .string s ∧ s.size ≤ 60000 ∧ layN s (l.drop k) = (r1, r2) ∧ Below w.heap.size w wr) (fun _ i _ => m - (intOf i).toNat)
  case atStart => exact ⟨0, ByteArray.empty, Nat.zero_le _, rfl, rfl, Nat.zero_le _, H0.out, Below.refl _ _⟩
  case round =>
    obtain ⟨k, s, hk, rfl, rfl, hs, hlay, hb⟩ := hrel
    by_cases hlt : k < m
    · have hlt2 : (k : Int) < m := by omega
      have hkl : k < l.length := by rw [HM.out]; exact hlt
      obtain ⟨bb, off, cc, e, hc, hbb⟩ := HL.out.get hb hkl
      rw [HM.out] at e
      simp only [Value.slice.injEq] at e
      obtain ⟨rfl, -, rfl⟩ := e
      rw [drop_cons hkl] at hlay
      have hx := HZ.out _ (List.getElem_mem hkl)
      obtain ⟨x, hxx⟩ : ∃ x, l[k] = x := ⟨_, rfl⟩
      rw [hxx] at hlay hc hx
      clear hxx
      unfold maxLen at hx
      by_cases h1 : x.size ≤ 2000
      · obtain ⟨f, hf⟩ : ∃ f, frm x = f := ⟨_, rfl⟩
        have hfs : f.size = x.size + 6 := by rw [← hf, frm_size]
        have HFr := Lib.hid hf
        by_cases h2 : s.size + (x.size + 6) ≤ 60000
        · rw [lay_go h1 h2, hf] at hlay
          have HLay := Lib.hid hlay
          have h3 : decide ((f.size : Int) > 60000 - s.size) = false := decide_eq_false (by omega)
          have hs2 : (s ++ f).size ≤ 60000 := by rw [ByteArray.size_append]; omega
          clear hlay hf
          go_wp2_with fail
          refine (rFrame_yes HFr h1 _).mono ?_
          rintro e w1 ⟨rfl, hb1⟩
          go_wp2
          go_roundw
          case rel => exact ⟨k + 1, s ++ f, by omega, by go_num, rfl, hs2, HLay.out, nx hb hb1⟩
          case measure => simp [intOf]; omega
        · rw [lay_full h1 h2] at hlay
          have HLay := Lib.hid hlay
          have h3 : decide ((f.size : Int) > 60000 - s.size) = true := decide_eq_true (by omega)
          clear hlay hf
          go_wp2_with fail
          refine (rFrame_yes HFr h1 _).mono ?_
          rintro e w1 ⟨rfl, hb1⟩
          go_wp2
          go_ret2
          obtain ⟨rfl, rfl⟩ := Prod.mk.inj HLay.out
          exact ⟨rfl, nx hb hb1⟩
      · rw [lay_big h1] at hlay
        have HLay := Lib.hid hlay
        clear hlay
        go_wp2_with fail
        refine (rFrame_no (by omega) (by show x.size ≤ 2 ^ 63 - 1; omega) _).mono ?_
        rintro e w1 ⟨rfl, hb1⟩
        go_wp2
        go_ret2
        obtain ⟨rfl, rfl⟩ := Prod.mk.inj HLay.out
        exact ⟨rfl, nx hb hb1⟩
    · obtain rfl : k = m := by omega
      rw [List.drop_of_length_le (by rw [HM.out]; exact Nat.le_refl _)] at hlay
      have HLay := Lib.hid hlay
      clear hlay
      go_wp2
      go_ret2
      obtain ⟨rfl, rfl⟩ := Prod.mk.inj HLay.out
      exact ⟨rfl, hb⟩
theorem fits_go {r : Int} {x : ByteArray} {l : List ByteArray} (h1 : x.size ≤ 2000) (h2 : (x.size : Int) + 6 ≤ r) : fitsN r (x :: l) = fitsN (r - ((x.size : Int) + 6)) l := by rw [fitsN, if_pos ⟨h1, h2⟩]
theorem fits_no {r : Int} {x : ByteArray} {l : List ByteArray} (h : ¬ (x.size ≤ 2000 ∧ (x.size : Int) + 6 ≤ r)) : fitsN r (x :: l) = false := by rw [fitsN, if_neg h]
theorem ret_bool {a b : Bool} (h : a = b) : Ending.returned (.bool a) = .returned (.bool b) := by rw [h]
set_option maxRecDepth 8000 in
set_option maxHeartbeats 2000000 in
theorem rFits_any (n : Nat) (l : List ByteArray) (v : Value) (r : Int) (w : World) (h : TL n l v w) (hl : l.length ≤ 1000000) (hz : ∀ x ∈ l, x.size ≤ 1000000000) (hr : -9223372036854775808 ≤ r ∧ r ≤ 9223372036854775807) :
    Calls Tryd.prog 17 #[v, .int .i64 r] w fun e w' => e = .returned (.bool (fitsN r l)) ∧ Below w.heap.size w w' := by
  obtain ⟨a1, c1, rfl⟩ := h.len
  obtain ⟨b, hb⟩ : ∃ q, fitsN r l = q := ⟨_, rfl⟩
  have H0 := Lib.hid (show fitsN r (l.drop 0) = b from hb)
  rw [hb]
  obtain ⟨m, hm⟩ : ∃ m, l.length = m := ⟨_, rfl⟩
  have HL := Lib.hid h
  have HZ := Lib.hid hz
  have HM := Lib.hid hm
  rw [hm] at hl ⊢
  clear h hz hb hm
  go_enter Tryd.func17, Tryd.ntmps17
  go_wp2
  go_loopw [1, 9] (fun t i wr => ∃ (k : Nat) (r : Int), k ≤ m ∧ i = .int .i64 k ∧ t = .int .i64 r ∧ (-9223372036854775808 ≤ r ∧ r ≤ 9223372036854775807) ∧ fitsN r (l.drop k) = b ∧ w = wr) (fun _ i _ => m - (intOf i).toNat)
  case atStart => exact ⟨0, r, Nat.zero_le _, rfl, rfl, hr, H0.out, rfl⟩
  case round =>
    clear hr H0
    obtain ⟨k, r, hk, rfl, rfl, hr, hft, rfl⟩ := hrel
    by_cases hlt : k < m
    · have hlt2 : (k : Int) < m := by omega
      have hkl : k < l.length := by rw [HM.out]; exact hlt
      obtain ⟨bb, off, cc, e, hc, hbb⟩ := HL.out.get (Below.refl _ _) hkl
      rw [HM.out] at e
      simp only [Value.slice.injEq] at e
      obtain ⟨rfl, -, rfl⟩ := e
      rw [drop_cons hkl] at hft
      have hx := HZ.out _ (List.getElem_mem hkl)
      obtain ⟨x, hxx⟩ : ∃ x, l[k] = x := ⟨_, rfl⟩
      rw [hxx] at hft hc hx
      clear hxx
      by_cases h1 : x.size ≤ 2000
      · have d1 : decide ((x.size : Int) > 2000) = false := decide_eq_false (by omega)
        by_cases h2 : (x.size : Int) + 6 ≤ r
        · have d2 : decide ((x.size : Int) + 6 > r) = false := decide_eq_false (by omega)
          rw [fits_go h1 h2] at hft
          have HFt := Lib.hid hft
          clear hft
          go_wp2
          go_roundw
          case rel => exact ⟨k + 1, r - ((x.size : Int) + 6), by omega, by go_num, by go_num, by omega, HFt.out, trivial⟩
          case measure => simp [intOf]; omega
        · have d2 : decide ((x.size : Int) + 6 > r) = true := decide_eq_true (by omega)
          rw [fits_no (fun h => h2 h.2)] at hft
          have HFt := Lib.hid hft
          clear hft
          go_wp2
          go_ret
          exact ⟨ret_bool HFt.out, Below.refl _ _⟩
      · have d1 : decide ((x.size : Int) > 2000) = true := decide_eq_true (by omega)
        rw [fits_no (fun h => h1 h.1)] at hft
        have HFt := Lib.hid hft
        clear hft
        go_wp2
        go_ret
        exact ⟨ret_bool HFt.out, Below.refl _ _⟩
    · obtain rfl : k = m := by omega
      rw [List.drop_of_length_le (by rw [HM.out]; exact Nat.le_refl _)] at hft
      have HFt := Lib.hid hft
      clear hft
      go_wp2
      go_ret
      exact ⟨ret_bool (by rw [← HFt.out]; rfl), Below.refl _ _⟩
end Go.Proofs.YtodlibpibopnoaaDoor.Wa
