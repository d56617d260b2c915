/- Of the statements of layer 9: same. -/
import Derived.Test.YtfnmmknbjfmagaaBlA
import Derived.Test.YtfnmmknbjfmagaaBoA
namespace Go.Proofs.Ytfnmmknbjfmagaa.Bk
open Go.RowKit
set_option linter.unusedVariables false
open Go.Proofs.Ytfnmmknbjfmagaa.Rw
open Go.Proofs.Ytfnmmknbjfmagaa.Da
open Go.Proofs.Ytfnmmknbjfmagaa.Le
set_option maxHeartbeats 1600000 in
theorem sameBk_any (B B' : Bs) (b c : Bk) (v x : Value) (w : World) (h : BL B b v w) (k : BL B' c x w) (h1 : b.1.length ≤ 1000000) (h2 : (flat b.1).length ≤ 1000000) (h3 : b.2.1.length ≤ 1000000) (h4 : (flat b.2.1).length ≤ 1000000) :
    Calls Try.prog 13 #[v, x] w fun e w' => e = .returned (.bool (sameB b c)) ∧ Below w.heap.size w w' := by
  obtain ⟨x1, y1, rfl, hx1, hy1⟩ := h
  obtain ⟨x2, y2, rfl, hx2, hy2⟩ := k
  obtain ⟨n, hn⟩ : ∃ n, b.2.2 = n := ⟨_, rfl⟩
  obtain ⟨m, hm⟩ : ∃ n, c.2.2 = n := ⟨_, rfl⟩
  rw [hn, hm]
  obtain ⟨s, hs⟩ : ∃ s, s = w.heap.size := ⟨_, rfl⟩
  obtain ⟨V, hV⟩ : ∃ V, V = (w.alloc (.cells #[x1, y1, .int .i64 n] 26)).alloc (.cells #[x2, y2, .int .i64 m] 26) := ⟨_, rfl⟩
  have hbV : Below w.heap.size w V := hV ▸ below2 w _ _
  have hzV : V.heap.size = s + 2 := by rw [hV, hs]; simp
  have hk0 : V.heap[s]? = some (.cells #[x1, y1, .int .i64 n] 26 (0, 0)) := by
    rw [hV, hs]
    exact ((below1 _ _).block _ (by simp)).trans (heap_alloc_new w _)
  have hk1 : V.heap[s + 1]? = some (.cells #[x2, y2, .int .i64 m] 26 (0, 0)) := by
    have := heap_alloc_new (w.alloc (.cells #[x1, y1, .int .i64 n] 26)) (.cells #[x2, y2, .int .i64 m] 26)
    rw [World.size_alloc] at this
    rw [hV, hs]; exact this
  obtain ⟨a1, c1, rfl⟩ := hx1.len
  obtain ⟨a2, c2, rfl⟩ := hx2.len
  obtain ⟨a3, c3, rfl⟩ := hy1.len
  obtain ⟨a4, c4, rfl⟩ := hy2.len
  have HF := Lib.hid (show ∀ u, Below V.heap.size V u → (u.cell? ⟨s, 0, none⟩ = some (.slice a1 b.1.length c1) ∧ u.cell? ⟨s, 1, none⟩ = some (.slice a3 b.2.1.length c3) ∧ u.cell? ⟨s, 2, none⟩ = some (.int .i64 n)) ∧ (u.cell? ⟨s + 1, 0, none⟩ = some (.slice a2 c.1.length c2) ∧ u.cell? ⟨s + 1, 1, none⟩ = some (.slice a4 c.2.1.length c4) ∧ u.cell? ⟨s + 1, 2, none⟩ = some (.int .i64 m)) ∧ s + 1 < u.heap.size from fun u hu => by
    have g0 := (hu.block s (by omega)).trans hk0
    have g1 := (hu.block (s + 1) (by omega)).trans hk1
    have hz := hu.size
    refine ⟨⟨?_, ?_, ?_⟩, ⟨?_, ?_, ?_⟩, by omega⟩ <;> simp [World.cell?, g0, g1])
  have HL := Lib.hid (show ∀ u, Below V.heap.size V u → (LL B b.1 (.slice a1 b.1.length c1) u ∧ LL B' c.1 (.slice a2 c.1.length c2) u) ∧ (LL B b.2.1 (.slice a3 b.2.1.length c3) u ∧ LL B' c.2.1 (.slice a4 c.2.1.length c4) u) ∧ Below w.heap.size w u from fun u hu =>
    ⟨⟨Is.stays eL 48 hx1 (nx hbV hu), Is.stays eL 48 hx2 (nx hbV hu)⟩, ⟨Is.stays eL 48 hy1 (nx hbV hu), Is.stays eL 48 hy2 (nx hbV hu)⟩, nx hbV hu⟩)
  have HS := Lib.hid hs
  have HV := Lib.hid hV
  have HN := Lib.hid hn
  have HM := Lib.hid hm
  clear hx1 hx2 hy1 hy2 hV hk0 hk1 hn hm
  obtain ⟨⟨p0, p1, p2⟩, ⟨q0, q1, q2⟩, hz⟩ := HF.out V (Below.refl _ _)
  rw [hs] at p0 p1 p2 q0 q1 q2 hz
  clear hs
  by_cases e0 : n = m
  · have hd : (n == m) = true := by simpa using e0
    obtain ⟨r1, hr1⟩ : ∃ r, sameB b.1 c.1 = r := ⟨_, rfl⟩
    have HR1 := Lib.hid hr1
    have HE := Lib.hid e0
    clear e0
    go_enter Try.func13, Try.ntmps13
    go_wp2_with fail
    rw [← HV.out]
    refine (levels_is HR1 B B' _ _ V (HL.out V (Below.refl _ _)).1.1 (HL.out V (Below.refl _ _)).1.2 h1 h2).mono ?_
    rintro e w1 ⟨rfl, hb1⟩
    clear p0 p1 p2 q0 q1 q2 hz
    obtain ⟨⟨p0, p1, p2⟩, ⟨q0, q1, q2⟩, hz⟩ := HF.out w1 hb1
    rw [HS.out] at p0 p1 p2 q0 q1 q2 hz
    cases r1
    · have HZ : Hid (sameB b c = false) := Lib.hid (sameB_no (fun e => sameB_ne HR1.out (by rw [e])))
      go_wp2
      go_ret
      exact ⟨ret_bool HZ.out.symm, (HL.out w1 hb1).2.2⟩
    · obtain ⟨r2, hr2⟩ : ∃ r, sameB b.2.1 c.2.1 = r := ⟨_, rfl⟩
      have HR2 := Lib.hid hr2
      have HZ : Hid (sameB b c = r2) := Lib.hid (by
        cases r2
        · exact sameB_no (fun e => sameB_ne hr2 (by rw [e]))
        · exact sameB_yes (Prod.ext (sameB_eq HR1.out) (Prod.ext (sameB_eq hr2) (HN.out.trans (HE.out.trans HM.out.symm)))))
      clear hr2 hr1
      go_wp2_with fail
      refine (levels_is HR2 B B' _ _ w1 (HL.out w1 hb1).2.1.1 (HL.out w1 hb1).2.1.2 h3 h4).mono ?_
      rintro e w2 ⟨rfl, hb2⟩
      go_wp2
      go_ret
      exact ⟨ret_bool HZ.out.symm, (HL.out w2 (nx hb1 hb2)).2.2⟩
  · have hd : (n == m) = false := by simpa using e0
    have HZ : Hid (sameB b c = false) := Lib.hid (sameB_no (fun e => e0 (by rw [← HN.out, ← HM.out, e])))
    have hb0 := (HL.out V (Below.refl _ _)).2.2
    have HB0 := Lib.hid hb0
    clear e0 hb0
    go_enter Try.func13, Try.ntmps13
    go_wp2
    go_ret
    exact ⟨ret_bool HZ.out.symm, by rw [← HV.out]; exact HB0.out⟩
theorem sameBk_is {b c : Bk} {r : Bool} (h : Hid (sameB b c = r)) (B B' : Bs) (v x : Value) (w : World) (k1 : BL B b v w) (k2 : BL B' c x w) (h1 : b.1.length ≤ 1000) (h2 : (flat b.1).length ≤ 1000) (h3 : b.2.1.length ≤ 1000) (h4 : (flat b.2.1).length ≤ 1000) :
    Calls Try.prog 13 #[v, x] w fun e w' => e = .returned (.bool r) ∧ Below w.heap.size w w' := by
  rw [← h.out]; exact sameBk_any B B' b c v x w k1 k2 (by omega) (by omega) (by omega) (by omega)
end Go.Proofs.Ytfnmmknbjfmagaa.Bk
