/- Package wal: Scan, Lay, Fits, Last. -/
import Derived.Test.YtodlibpibopnoaaDoorWaD
import Derived.Test.YtodlibpibopnoaaDoorBd
namespace Go.Proofs.YtodlibpibopnoaaDoor.Wa
open Go.RowKit
set_option linter.unusedVariables false
open Go.Proofs.YtodlibpibopnoaaDoor.Rw
open Go.Proofs.YtodlibpibopnoaaDoor.Da
open Go.Proofs.YtodlibpibopnoaaDoor.Cr
open Go.Proofs.YtodlibpibopnoaaDoor.Bd
theorem open_is {s : ByteArray} {a : Int} {x : ByteArray} {y z : Int} (H : Hid (openS s a = x ∧ openA s a = y ∧ openE s a = z)) (hs : Hid (s.size ≤ 1000000)) (w : World) (ht : Tab w) :
    Calls Tryd.prog 18 #[.string s, .int .i64 a] w fun e w' => e = .returned (.tuple #[.string x, .int .i64 y, .int .i64 z]) ∧ Below w.heap.size w w' := by
  obtain ⟨rfl, rfl, rfl⟩ := H.out
  exact open_any s a (Nat.le_trans hs.out (by decide)) w ht
set_option maxRecDepth 8000 in
set_option maxHeartbeats 2000000 in
theorem scan_any (q : Nat) (s : ByteArray) (hs : s.size ≤ 1000000) (w : World) (hq : q ≤ w.heap.size) (ht : Tab w) :
    Calls Tryd.prog 8 #[.string s] w (ScP q (scan s) w) := by
  have HS := Lib.hid hs
  have HT := Lib.hid ht
  have HF : Hid (∀ l a, Sc s 0 l a → Stop s a → scan s = (l, a)) := Lib.hid fun l a h k => scan_is ⟨h, k⟩
  clear ht
  go_enter Tryd.func8, Tryd.ntmps8
  go_wp2
  go_step3
  go_wp2
  go_step3
  go_wp2
  go_loopw [4, 5] (fun t i wr => ∃ (a : Nat) (l : List ByteArray), i = .int .i64 a ∧ a ≤ s.size ∧ Sc s 0 l a ∧ OwnT q w.heap.size l t wr ∧ Below w.heap.size w wr) (fun _ i _ => s.size - (intOf i).toNat)
  case atStart => exact ⟨0, [], rfl, Nat.zero_le _, .nil _, Own.nil _ _ _, Below.refl _ _⟩
  case round =>
    obtain ⟨a, l, rfl, ha, hsc, hown, hb⟩ := hrel
    have HSc := Lib.hid hsc
    have HOw := Lib.hid hown
    have hll : l.length ≤ 100000000 := by have := hsc.many (Nat.zero_le _); omega
    clear hsc hown
    by_cases h1 : a < s.size
    · have h1' : (a : Int) < s.size := by omega
      by_cases h0 : openE s a = 0
      · obtain ⟨b, hA, hb6, hbs, -, -⟩ := next h0
        obtain ⟨x, hx⟩ : ∃ x, openS s a = x := ⟨_, rfl⟩
        have HO := Lib.hid (⟨hx, hA, h0⟩ : openS s a = x ∧ openA s a = (b : Nat) ∧ openE s a = 0)
        have HN : Hid (Sc s 0 (l ++ [x]) b) := Lib.hid (by rw [← hx]; exact HSc.out.snoc h1 h0 hA)
        clear h0 hA hx
        go_wp2_with fail
        refine (open_is HO HS _ (HT.out.below hb)).mono ?_
        rintro e w1 ⟨rfl, hb1⟩
        have bw1 := nx hb hb1
        obtain ⟨v2, w2, hrun, hown2, hbl⟩ := app_one (HOw.out.stays hb1) hq bw1.size x hll
        have HOw2 := Lib.hid hown2
        have bw2 := hbl _ w (Nat.le_refl _) bw1
        clear hown2 hbl
        go_wp2
        go_roundw
        case rel => exact ⟨b, l ++ [x], rfl, hbs, HN.out, HOw2.out, bw2⟩
        case measure => simp [intOf]; omega
      · obtain ⟨z, hz⟩ : ∃ z, openE s a = z := ⟨_, rfl⟩
        rw [hz] at h0
        have HO := Lib.hid (open_no hz h0)
        have z1 : (z != 0) = true := by simpa using h0
        have z2 : (z == 0) = false := by simpa using h0
        have HE : Hid (scan s = (l, a)) := Lib.hid (HF.out _ _ HSc.out fun h => h0 (hz.symm.trans h.2))
        clear h0 hz
        go_wp2_with fail
        refine (open_is HO HS _ (HT.out.below hb)).mono ?_
        rintro e w1 ⟨rfl, hb1⟩
        go_wp2
        go_ret2
        exact ⟨_, by rw [HE.out]; rfl, nx hb hb1, by rw [HE.out]; exact HOw.out.stays hb1⟩
    · obtain rfl : a = s.size := by omega
      have HE : Hid (scan s = (l, s.size)) := Lib.hid (HF.out _ _ HSc.out (stop_end s))
      go_wp2
      go_ret2
      exact ⟨_, by rw [HE.out]; rfl, hb, by rw [HE.out]; exact HOw.out⟩
theorem frame_yes {s x : ByteArray} (H : Hid (frm s = x)) (hs : s.size ≤ 2000) (w : World) (ht : Tab w) :
    Calls Tryd.prog 20 #[.string s] w fun e w' => e = .returned (.tuple #[.string x, .int .i64 0]) ∧ Below w.heap.size w w' := by
  have h := frame_any s (Nat.le_trans hs (by decide)) w ht
  have e : frameV s = .tuple #[.string x, .int .i64 0] := by unfold frameV frameS frameE; rw [if_pos hs, if_pos hs, H.out]
  first | (rw [e] at h; exact h) | (rw [← e]; exact h)
theorem frame_no {s : ByteArray} (h1 : 2000 < s.size) (hs : s.size ≤ maxLen) (w : World) (ht : Tab w) :
    Calls Tryd.prog 20 #[.string s] w fun e w' => e = .returned (.tuple #[.string ByteArray.empty, .int .i64 5]) ∧ Below w.heap.size w w' := by
  have h := frame_any s hs w ht
  have e : frameV s = .tuple #[.string ByteArray.empty, .int .i64 5] := by unfold frameV frameS frameE; rw [if_neg (by omega), if_neg (by omega)]
  first | (rw [e] at h; exact h) | (rw [← e]; exact h)
theorem cells_app (s f : ByteArray) : Lib.byteCells (s ++ f).data.toList = Lib.byteCells s.data.toList ++ Lib.strCells f := by
  rw [ByteArray.data_append, Array.toList_append]; exact List.map_append
set_option maxRecDepth 200000 in
set_option maxHeartbeats 2000000 in
theorem lay_any (n : Nat) (l : List ByteArray) (v : Value) (w : World) (h : TL n l v w) (hl : l.length ≤ 1000000) (hz : ∀ x ∈ l, x.size ≤ maxLen) (ht : Tab w) :
    Calls Tryd.prog 14 #[v] w fun e w' => e = .returned (.tuple #[.string (layN ByteArray.empty l).1, .int .i64 (layN ByteArray.empty l).2]) ∧ Below w.heap.size w w' := by
  obtain ⟨a1, c1, rfl⟩ := h.len
  obtain ⟨⟨r1, r2⟩, hr⟩ : ∃ q, layN ByteArray.empty l = q := ⟨_, rfl⟩
  have H0 := Lib.hid (show layN ByteArray.empty (l.drop 0) = (r1, r2) from hr)
  rw [hr]
  obtain ⟨m, hm⟩ : ∃ m, l.length = m := ⟨_, rfl⟩
  have HL := Lib.hid h
  have HZ := Lib.hid hz
  have HM := Lib.hid hm
  rw [hm] at hl ⊢
  have HT := Lib.hid ht
  clear h hz hr hm ht
  go_enter Tryd.func14, Tryd.ntmps14
  go_wp2_with fail
  obtain ⟨V, hV⟩ : ∃ V, V = w.alloc (.cells #[.pointer none, .slice none 0 0] 42) := ⟨_, rfl⟩
  rw [← hV]
  have hB0 : Bld w.heap.size w.heap.size (Lib.byteCells ByteArray.empty.data.toList) V := hV ▸ Lib.fresh_isBuilder _ _ w
  have hbV : Below w.heap.size w V := hV ▸ below1 w _
  clear hV
  go_wp2
  go_loopw [11] (fun i wr => ∃ (k : Nat) (s : ByteArray), k ≤ m ∧ i = .int .i64 k ∧ s.size ≤ 60000 ∧ layN s (l.drop k) = (r1, r2) ∧ Below w.heap.size w wr ∧ Bld w.heap.size w.heap.size (Lib.byteCells s.data.toList) wr) (fun i _ => m - (intOf i).toNat)
  case atStart => exact ⟨0, ByteArray.empty, Nat.zero_le _, rfl, Nat.zero_le _, H0.out, hbV, hB0⟩
  case round =>
    obtain ⟨k, s, hk, rfl, hs, hlay, hb, hB⟩ := hrel
    have HB := Lib.hid hB
    have hsl : (Lib.byteCells s.data.toList).length = s.size := by rw [Lib.byteCells_length, Array.length_toList]; rfl
    clear hB hB0 hbV
    by_cases hlt : k < m
    · have hlt2 : (k : Int) < m := by omega
      have hkl : k < l.length := by rw [HM.out]; exact hlt
      obtain ⟨bb, off, cc, e, hc, hbb⟩ := HL.out.get hb hkl
      rw [HM.out] at e
      simp only [Value.slice.injEq] at e
      obtain ⟨rfl, -, rfl⟩ := e
      rw [drop_cons hkl] at hlay
      have hx := HZ.out _ (List.getElem_mem hkl)
      obtain ⟨x, hxx⟩ : ∃ x, l[k] = x := ⟨_, rfl⟩
      rw [hxx] at hlay hc hx
      clear hxx
      unfold maxLen at hx
      by_cases h1 : x.size ≤ 2000
      · obtain ⟨f, hf⟩ : ∃ f, frm x = f := ⟨_, rfl⟩
        have hfs : f.size = x.size + 6 := by rw [← hf, frm_size]
        have HFr := Lib.hid hf
        by_cases h2 : s.size + (x.size + 6) ≤ 60000
        · rw [lay_go h1 h2, hf] at hlay
          have HLay := Lib.hid hlay
          obtain ⟨t, ht⟩ : ∃ t : Nat, (s.size : Int) + (f.size : Int) = t := ⟨s.size + f.size, by omega⟩
          have h3 : decide ((60000 : Int) < t) = false := decide_eq_false (by omega)
          have ht1 : t ≤ 1000000 := by omega
          have hs2 : (s ++ f).size ≤ 60000 := by rw [ByteArray.size_append]; omega
          clear hlay hf hfs h2
          go_wp2_with fail
          refine (frame_yes HFr h1 _ (HT.out.below hb)).mono ?_
          rintro e w1 ⟨rfl, hb1⟩
          have HB1 := Lib.hid (HB.out.below hb1)
          have hb2 := nx hb hb1
          have hs3 := hb2.size
          clear HB
          go_wp2_with fail
          refine (blen_any _ _ _ _ HB1.out (by omega)).mono ?_
          rintro e w2 ⟨rfl, rfl⟩
          rw [hsl]
          go_wp2_with fail
          refine (writeString_any _ _ _ _ _ HB1.out (by omega) (by omega)).mono ?_
          rintro e w4 ⟨rfl, hB4, hb6⟩
          have HB4 : Hid (Bld w.heap.size w.heap.size (Lib.byteCells (s ++ f).data.toList) w4) := Lib.hid (by rw [cells_app]; exact hB4)
          have hb7 : Below w.heap.size w w4 := hb2.trans hb6
          clear HB1 hB4 hb2 hb6 hb hb1
          go_wp2
          go_roundw
          case rel => exact ⟨k + 1, s ++ f, by omega, by go_num, hs2, HLay.out, hb7, HB4.out⟩
          case measure => simp [intOf]; omega
        · rw [lay_full h1 h2] at hlay
          have HLay := Lib.hid hlay
          obtain ⟨t, ht⟩ : ∃ t : Nat, (s.size : Int) + (f.size : Int) = t := ⟨s.size + f.size, by omega⟩
          have h3 : decide ((60000 : Int) < t) = true := decide_eq_true (by omega)
          have ht1 : t ≤ 1000000 := by omega
          clear hlay hf hfs h2
          go_wp2_with fail
          refine (frame_yes HFr h1 _ (HT.out.below hb)).mono ?_
          rintro e w1 ⟨rfl, hb1⟩
          have HB1 := Lib.hid (HB.out.below hb1)
          clear HB
          go_wp2_with fail
          refine (blen_any _ _ _ _ HB1.out (by omega)).mono ?_
          rintro e w2 ⟨rfl, rfl⟩
          rw [hsl]
          go_wp2
          go_ret2
          obtain ⟨rfl, rfl⟩ := Prod.mk.inj HLay.out
          exact ⟨rfl, nx hb hb1⟩
      · rw [lay_big h1] at hlay
        have HLay := Lib.hid hlay
        clear hlay
        go_wp2_with fail
        refine (frame_no (by omega) (by show x.size ≤ 2 ^ 63 - 1; omega) _ (HT.out.below hb)).mono ?_
        rintro e w1 ⟨rfl, hb1⟩
        go_wp2
        go_ret2
        obtain ⟨rfl, rfl⟩ := Prod.mk.inj HLay.out
        exact ⟨rfl, nx hb hb1⟩
    · obtain rfl : k = m := by omega
      rw [List.drop_of_length_le (by rw [HM.out]; exact Nat.le_refl _)] at hlay
      have HLay := Lib.hid hlay
      clear hlay
      have hs3 := hb.size
      go_wp2_with fail
      refine (string_any _ _ _ _ HB.out (by omega)).mono ?_
      rintro e w4 ⟨rfl, hb6⟩
      go_wp2
      go_ret2
      obtain ⟨rfl, rfl⟩ := Prod.mk.inj HLay.out
      exact ⟨rfl, hb.trans hb6⟩
theorem fits_neg {r : Int} (h : r < 0) (l : List ByteArray) : fitsN r l = false := by
  cases l with
  | nil => rw [fitsN]; exact decide_eq_false (by omega)
  | cons x l => rw [fitsN, if_neg (by omega)]
theorem fits_on {r : Int} {x : ByteArray} {l : List ByteArray} (h : x.size ≤ 2000) : fitsN r (x :: l) = fitsN (r - ((x.size : Int) + 6)) l := by
  by_cases k : (x.size : Int) + 6 ≤ r
  · rw [fitsN, if_pos ⟨h, k⟩]
  · rw [fitsN, if_neg (fun q => k q.2), fits_neg (by omega)]
set_option maxRecDepth 8000 in
set_option maxHeartbeats 2000000 in
theorem fits_any (n : Nat) (l : List ByteArray) (v : Value) (r : Int) (w : World) (h : TL n l v w) (hl : l.length ≤ 1000000) (hz : ∀ x ∈ l, x.size ≤ 1000000000) (hr : -9223372036854775808 ≤ r ∧ r ≤ 9223372036854775807) :
    Calls Tryd.prog 16 #[v, .int .i64 r] w fun e w' => e = .returned (.bool (fitsN r l)) ∧ Below w.heap.size w w' := by
  obtain ⟨a1, c1, rfl⟩ := h.len
  obtain ⟨b, hb⟩ : ∃ q, fitsN r l = q := ⟨_, rfl⟩
  have H0 := Lib.hid (show fitsN r (l.drop 0) = b from hb)
  rw [hb]
  obtain ⟨m, hm⟩ : ∃ m, l.length = m := ⟨_, rfl⟩
  have HL := Lib.hid h
  have HZ := Lib.hid hz
  have HM := Lib.hid hm
  rw [hm] at hl ⊢
  clear h hz hb hm
  go_enter Tryd.func16, Tryd.ntmps16
  go_wp2
  go_loopw [5, 10] (fun t i wr => ∃ (k t0 : Nat), k ≤ m ∧ i = .int .i64 k ∧ t = .int .i64 t0 ∧ t0 ≤ 2006 * k ∧ fitsN (r - t0) (l.drop k) = b ∧ w = wr) (fun _ i _ => m - (intOf i).toNat)
  case atStart => exact ⟨0, 0, Nat.zero_le _, rfl, rfl, Nat.zero_le _, by simpa using H0.out, rfl⟩
  case round =>
    clear H0
    obtain ⟨k, t0, hk, rfl, rfl, ht, hft, rfl⟩ := hrel
    by_cases hlt : k < m
    · have hlt2 : (k : Int) < m := by omega
      have hkl : k < l.length := by rw [HM.out]; exact hlt
      obtain ⟨bb, off, cc, e, hc, hbb⟩ := HL.out.get (Below.refl _ _) hkl
      rw [HM.out] at e
      simp only [Value.slice.injEq] at e
      obtain ⟨rfl, -, rfl⟩ := e
      rw [drop_cons hkl] at hft
      have hx := HZ.out _ (List.getElem_mem hkl)
      obtain ⟨x, hxx⟩ : ∃ x, l[k] = x := ⟨_, rfl⟩
      rw [hxx] at hft hc hx
      clear hxx
      by_cases h1 : x.size ≤ 2000
      · have d1 : decide ((x.size : Int) > 2000) = false := decide_eq_false (by omega)
        rw [fits_on h1, show r - (t0 : Int) - ((x.size : Int) + 6) = r - ((t0 + (x.size + 6) : Nat) : Int) by omega] at hft
        have HFt := Lib.hid hft
        clear hft
        go_wp2
        go_roundw
        case rel => exact ⟨k + 1, t0 + (x.size + 6), by omega, by go_num, by go_num, by omega, HFt.out, trivial⟩
        case measure => simp [intOf]; omega
      · have d1 : decide ((x.size : Int) > 2000) = true := decide_eq_true (by omega)
        rw [fits_no (fun h => h1 h.1)] at hft
        have HFt := Lib.hid hft
        clear hft
        go_wp2
        go_ret
        exact ⟨ret_bool HFt.out, Below.refl _ _⟩
    · obtain rfl : k = m := by omega
      rw [List.drop_of_length_le (by rw [HM.out]; exact Nat.le_refl _)] at hft
      have HFt := Lib.hid (hft.symm.trans (show fitsN (r - (t0 : Int)) [] = decide ((t0 : Int) ≤ r) by rw [fitsN, decide_eq_decide]; omega))
      clear hft
      go_wp2
      go_ret
      exact ⟨ret_bool HFt.out.symm, Below.refl _ _⟩
theorem scan_is2 {s : ByteArray} {l : List ByteArray} {a : Nat} (H : Hid (scan s = (l, a))) (q : Nat) (hs : s.size ≤ 1000000) (w : World) (hq : q ≤ w.heap.size) (ht : Tab w) :
    Calls Tryd.prog 8 #[.string s] w (ScP q (l, a) w) := by
  rw [← H.out]; exact scan_any q s hs w hq ht
set_option maxRecDepth 8000 in
set_option maxHeartbeats 2000000 in
theorem last_any (s : ByteArray) (hs : s.size ≤ 1000000) (w : World) (ht : Tab w) :
    Calls Tryd.prog 10 #[.string s] w fun e w' => e = .returned (.tuple #[.string (lastS (scan s).1), .bool (decide (0 < (scan s).1.length))]) ∧ Below w.heap.size w w' := by
  obtain ⟨⟨l, a⟩, hr⟩ : ∃ q, scan s = q := ⟨_, rfl⟩
  have hfew := scan_few hr
  rw [hr]
  have HR := Lib.hid hr
  clear hr
  go_enter Tryd.func10, Tryd.ntmps10
  go_wp2_with fail
  refine (scan_is2 HR w.heap.size hs w (Nat.le_refl _) ht).mono ?_
  rintro e w1 ⟨v1, rfl, hb1, hown⟩
  have htl := hown.tl (Nat.le_refl _)
  obtain ⟨a1, c1, rfl⟩ := htl.len
  simp only at htl ⊢
  obtain ⟨m, hm⟩ : ∃ m, l.length = m := ⟨_, rfl⟩
  rw [hm] at hfew htl ⊢
  by_cases h0 : m = 0
  · subst h0
    obtain rfl : l = [] := List.eq_nil_of_length_eq_zero hm
    go_wp2
    go_ret2
    exact ⟨rfl, hb1⟩
  · have h1 : (0 : Int) ≤ (m : Int) - 1 := by omega
    have h2 : (m : Int) - 1 < m := by omega
    have h3 : ((m : Int) - 1).toNat = m - 1 := by omega
    have h4 : decide ((m : Int) = 0) = false := decide_eq_false (by omega)
    have h5 : ((m : Int) == 0) = false := by simpa using h4
    obtain ⟨bb, off, cc, e, hc, hbb⟩ := TL.get htl (Below.refl _ _) (k := m - 1) (by omega)
    rw [hm] at e
    simp only [Value.slice.injEq] at e
    obtain ⟨rfl, -, rfl⟩ := e
    have hx : lastS l = l[m - 1] := by
      rw [lastS_at (by omega)]
      congr 1; omega
    obtain ⟨x, hxx⟩ : ∃ x, l[m - 1] = x := ⟨_, rfl⟩
    rw [hxx] at hc hx
    have HX := Lib.hid hx
    have h6 : decide (0 < m) = true := decide_eq_true (by omega)
    have HM := Lib.hid hm
    clear hx hxx htl hown hm
    go_wp2
    go_ret2
    exact ⟨by rw [HX.out, HM.out, h6]; rfl, hb1⟩
theorem last_is {s : ByteArray} {x : ByteArray} {b : Bool} (H : Hid (lastS (scan s).1 = x ∧ decide (0 < (scan s).1.length) = b)) (hs : s.size ≤ 1000000) (w : World) (ht : Tab w) :
    Calls Tryd.prog 10 #[.string s] w fun e w' => e = .returned (.tuple #[.string x, .bool b]) ∧ Below w.heap.size w w' := by
  obtain ⟨rfl, rfl⟩ := H.out
  exact last_any s hs w ht
end Go.Proofs.YtodlibpibopnoaaDoor.Wa
