/- The document's own of layer 15: Last; of its statements: texts, far. -/
import Derived.Test.YtodlibpibopnoaaDoorWaC
namespace Go.Proofs.YtodlibpibopnoaaDoor.Wa
open Go.RowKit
set_option linter.unusedVariables false
open Go.Proofs.YtodlibpibopnoaaDoor.Rw
open Go.Proofs.YtodlibpibopnoaaDoor.Da
open Go.Proofs.YtodlibpibopnoaaDoor.Cr
theorem rScan_is {s : ByteArray} {l : List ByteArray} {a : Nat} (H : Hid (scan s = (l, a))) (q : Nat) (hs : s.size ≤ 1000000) (w : World) (hq : q ≤ w.heap.size) :
    Calls Tryd.prog 9 #[.string s] w (ScP q (l, a) w) := by
  rw [← H.out]; exact rScan_any q s hs w hq
theorem scan_few {s : ByteArray} {l : List ByteArray} {a : Nat} (h : scan s = (l, a)) : l.length * 6 ≤ s.size ∧ a ≤ s.size := by
  have h1 := (scan_spec s).1
  rw [h] at h1
  have h2 := h1.many (Nat.zero_le _)
  have h3 := (sc_back h1 (Nat.zero_le _)).2.2.1
  simp only at h2 h3
  exact ⟨by omega, h3⟩
set_option maxRecDepth 8000 in
set_option maxHeartbeats 2000000 in
theorem rLast_any (s : ByteArray) (hs : s.size ≤ 1000000) (w : World) :
    Calls Tryd.prog 11 #[.string s] w fun e w' => e = .returned (.tuple #[.string (lastS (scan s).1), .bool (decide (0 < (scan s).1.length))]) ∧ Below w.heap.size w w' := by
  obtain ⟨⟨l, a⟩, hr⟩ : ∃ q, scan s = q := ⟨_, rfl⟩
  have hfew := scan_few hr
  rw [hr]
  have HR := Lib.hid hr
  clear hr
  go_enter Tryd.func11, Tryd.ntmps11
  go_wp2_with fail
  refine (rScan_is HR w.heap.size hs w (Nat.le_refl _)).mono ?_
  rintro e w1 ⟨v1, rfl, hb1, hown⟩
  have htl := hown.tl (Nat.le_refl _)
  obtain ⟨a1, c1, rfl⟩ := htl.len
  simp only at htl ⊢
  obtain ⟨m, hm⟩ : ∃ m, l.length = m := ⟨_, rfl⟩
  rw [hm] at hfew htl ⊢
  by_cases h0 : m = 0
  · subst h0
    obtain rfl : l = [] := List.eq_nil_of_length_eq_zero hm
    go_wp2
    go_ret2
    exact ⟨rfl, hb1⟩
  · have h1 : (0 : Int) ≤ (m : Int) - 1 := by omega
    have h2 : (m : Int) - 1 < m := by omega
    have h3 : ((m : Int) - 1).toNat = m - 1 := by omega
    have h4 : decide ((m : Int) = 0) = false := decide_eq_false (by omega)
    have h5 : ((m : Int) == 0) = false := by simpa using h4
    obtain ⟨bb, off, cc, e, hc, hbb⟩ := TL.get htl (Below.refl _ _) (k := m - 1) (by omega)
    rw [hm] at e
    simp only [Value.slice.injEq] at e
    obtain ⟨rfl, -, rfl⟩ := e
    have hx : lastS l = l[m - 1] := by
      rw [lastS_at (by omega)]
      congr 1; omega
    obtain ⟨x, hxx⟩ : ∃ x, l[m - 1] = x := ⟨_, rfl⟩
    rw [hxx] at hc hx
    have HX := Lib.hid hx
    have h6 : decide (0 < m) = true := decide_eq_true (by omega)
    have HM := Lib.hid hm
    clear hx hxx htl hown hm
    go_wp2
    go_ret2
    exact ⟨by rw [HX.out, HM.out, h6]; rfl, hb1⟩
theorem rLast_is {s : ByteArray} {x : ByteArray} {b : Bool} (H : Hid (lastS (scan s).1 = x ∧ decide (0 < (scan s).1.length) = b)) (hs : s.size ≤ 1000000) (w : World) :
    Calls Tryd.prog 11 #[.string s] w fun e w' => e = .returned (.tuple #[.string x, .bool b]) ∧ Below w.heap.size w w' := by
  obtain ⟨rfl, rfl⟩ := H.out
  exact rLast_any s hs w
theorem take_eq {α : Type} {l m : List α} {k : Nat} (h1 : k < l.length) (h2 : k < m.length) (h : l.take k = m.take k) (e : l[k] = m[k]) : l.take (k + 1) = m.take (k + 1) := by
  rw [Da.take_snoc h1, Da.take_snoc h2, h, e]
theorem ne_at {α : Type} {l m : List α} {k : Nat} (h1 : k < l.length) (h2 : k < m.length) (e : l[k] ≠ m[k]) : l ≠ m := fun h => by subst h; exact e rfl
theorem str_eq {x y : ByteArray} (h : x = y) : (x.toList == y.toList) = true := by rw [h]; exact beq_self_eq_true _
theorem str_ne {x y : ByteArray} (h : x ≠ y) : (x.toList == y.toList) = false := by
  rw [beq_eq_false_iff_ne]
  exact fun e => h (ba_ext (by rw [← toL, ← toL]; exact e))
set_option maxRecDepth 8000 in
set_option maxHeartbeats 2000000 in
theorem texts_any (q q' : Nat) (l m : List ByteArray) (v x : Value) (w : World) (h : TL q l v w) (k : TL q' m x w) (hl : l.length ≤ 1000000000) (hm : m.length ≤ 1000000000) :
    Calls Tryd.prog 12 #[v, x] w fun e w' => e = .returned (.bool (sameB l m)) ∧ Below w.heap.size w w' := by
  have HA := Lib.hid h
  have HB := Lib.hid k
  obtain ⟨a1, c1, rfl⟩ := h.len
  obtain ⟨a2, c2, rfl⟩ := k.len
  obtain ⟨n, hn⟩ : ∃ n, l.length = n := ⟨_, rfl⟩
  obtain ⟨n2, hn2⟩ : ∃ n, m.length = n := ⟨_, rfl⟩
  rw [hn] at hl HA ⊢
  rw [hn2] at hm HB ⊢
  have HN := Lib.hid hn
  have HN2 := Lib.hid hn2
  clear h k hn hn2
  by_cases hlen : n = n2
  · subst hlen
    go_enter Tryd.func12, Tryd.ntmps12
    go_wp2
    go_loopw [13] (fun i wr => ∃ k : Nat, k ≤ n ∧ i = .int .i64 k ∧ Below w.heap.size w wr ∧ l.take k = m.take k) (fun i _ => n - (intOf i).toNat)
    case atStart => exact ⟨0, Nat.zero_le _, rfl, Below.refl _ _, rfl⟩
    case round =>
      obtain ⟨k, hk, rfl, hb, hsame⟩ := hrel
      have HS := Lib.hid hsame
      clear hsame
      by_cases hlt : k < n
      · have hlt2 : (k : Int) < n := by omega
        have hkl : k < l.length := by rw [HN.out]; exact hlt
        have hkm : k < m.length := by rw [HN2.out]; exact hlt
        obtain ⟨b3, o3, c3, e, hc, hbb⟩ := TL.get HA.out hb hkl
        rw [HN.out] at e
        simp only [Value.slice.injEq] at e
        obtain ⟨rfl, -, rfl⟩ := e
        obtain ⟨b4, o4, c4, e, hc2, hbb2⟩ := TL.get HB.out hb hkm
        rw [HN2.out] at e
        simp only [Value.slice.injEq] at e
        obtain ⟨rfl, -, rfl⟩ := e
        have h8 := take_eq hkl hkm HS.out
        have h9 := ne_at hkl hkm
        obtain ⟨x, hx⟩ : ∃ x, l[k] = x := ⟨_, rfl⟩
        obtain ⟨y, hy⟩ : ∃ y, m[k] = y := ⟨_, rfl⟩
        rw [hx, hy] at h8 h9
        rw [hx] at hc
        rw [hy] at hc2
        have H8 := Lib.hid h8
        have H9 := Lib.hid h9
        clear h8 h9 hx hy
        by_cases hxy : x = y
        · have hq := str_eq hxy
          have HX := Lib.hid hxy
          clear hxy
          go_wp2
          go_region
          go_wp2
          go_roundw
          case rel => exact ⟨k + 1, by omega, by go_num, hb.drew, H8.out HX.out⟩
          case measure => simp [intOf]; omega
        · have hq := str_ne hxy
          have HX := Lib.hid hxy
          clear hxy
          go_wp2
          go_region
          go_wp2
          go_ret
          exact ⟨ret_bool (sameB_no (H9.out HX.out)).symm, hb.drew⟩
      · obtain rfl : k = n := by omega
        have hE : l = m := by
          have h1 := HS.out
          rwa [List.take_of_length_le (by rw [HN.out]; exact Nat.le_refl _), List.take_of_length_le (by rw [HN2.out]; exact Nat.le_refl _)] at h1
        have HE := Lib.hid hE
        clear hE
        go_wp2
        go_ret
        exact ⟨ret_bool (sameB_yes HE.out).symm, hb⟩
  · have h1 : ¬ (n : Int) = n2 := by omega
    have HE : Hid (l ≠ m) := Lib.hid fun e => hlen (by rw [← HN.out, ← HN2.out, e])
    go_enter Tryd.func12, Tryd.ntmps12
    go_wp2
    go_ret
    exact ⟨ret_bool (sameB_no HE.out).symm, Below.refl _ _⟩
end Go.Proofs.YtodlibpibopnoaaDoor.Wa
