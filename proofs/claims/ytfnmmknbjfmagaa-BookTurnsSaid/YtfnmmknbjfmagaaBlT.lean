/- BookTurns: walked. -/
import Derived.Test.YtfnmmknbjfmagaaBlS
namespace Go.Proofs.Ytfnmmknbjfmagaa.Bk
open Go.RowKit
set_option linter.unusedVariables false
open Go.Proofs.Ytfnmmknbjfmagaa.Rw
open Go.Proofs.Ytfnmmknbjfmagaa.Da
open Go.Proofs.Ytfnmmknbjfmagaa.Le
theorem mod5 (a : Int) : (IntKind.u64.wrap a).tmod 5 = 0 ∨ (IntKind.u64.wrap a).tmod 5 = 1 ∨ (IntKind.u64.wrap a).tmod 5 = 2 ∨ (IntKind.u64.wrap a).tmod 5 = 3 ∨ (IntKind.u64.wrap a).tmod 5 = 4 := by
  have h0 : 0 ≤ IntKind.u64.wrap a := by rw [IntKind.wrap_u64]; omega
  rw [Int.tmod_eq_emod_of_nonneg h0]
  omega
/-- What is turned: a book of one shape with what there was, in its box. -/
theorem first_pos {s : Int} {l : List Lv} (h : RightL s l) : ∀ k r, lens l = k :: r → 0 < k := fun k r e => by
  cases l with
  | nil => cases e
  | cons v r' =>
    have h1 := (h.2.1 v List.mem_cons_self).1
    unfold lens at e
    simp only [List.map_cons, List.cons.injEq] at e
    have := List.length_pos_iff.2 h1
    omega
theorem BL.soft {B : Bs} {b : Bk} {v : Value} {w w' : World} (hB : B.lo = 0) (h : BL B b v w) (hs : Soft w w') : ∃ b', Shape b b' ∧ BL B b' v w' := by
  obtain ⟨x, y, e, h1, h2⟩ := h
  obtain ⟨l1, k1, j1⟩ := ll_soft hB h1 hs
  obtain ⟨l2, k2, j2⟩ := ll_soft hB h2 hs
  exact ⟨(l1, l2, b.2.2), ⟨k1, k2, rfl⟩, x, y, e, j1, j2⟩
theorem Soft.trans {a b c : World} (h : Soft a b) (k : Soft b c) : Soft a c :=
  ⟨k.size.trans h.size, fun x cur t hx => by obtain ⟨_, h1⟩ := h.ty x cur t hx; exact k.ty _ _ _ h1, fun p x hx => by obtain ⟨_, h1⟩ := h.int p x hx; exact k.int _ _ h1, fun p a n c hx => k.oth _ _ _ _ (h.oth _ _ _ _ hx)⟩
set_option maxRecDepth 8000 in
set_option maxHeartbeats 8000000 in
theorem walkTurns1 (ops : List Op5) (v : Value) (which by_ : Int) (w : World) (h : PL (Bs.of w.heap.size) ops v w) (h80 : ops.length ≤ 80) :
    Calls Try.prog 4 #[v, .int .i64 which, .int .i64 by_] w fun e w' => e = .returned (.bool true) ∧ Below w.heap.size w w' := by
  obtain ⟨s, hs⟩ : ∃ s, s = w.heap.size := ⟨_, rfl⟩
  obtain ⟨B, hB'⟩ : ∃ B : Bs, B = ⟨0, fun b => b < s⟩ := ⟨_, rfl⟩
  have hB : B.le w.heap.size := by rw [hB', ← hs]; exact ⟨Nat.zero_le _, fun _ h => h⟩
  have hlo : B.lo = 0 := by rw [hB']
  have hex : ∀ b, ¬ B.ex b → s ≤ b := fun b h => by rw [hB'] at h; exact Nat.le_of_not_lt h
  have HB := Lib.hid (show ∀ u, Below w.heap.size w u → B.le u.heap.size from fun u hu => hB.mono hu.size)
  have HPl := Lib.hid (played_any B (Bs.of w.heap.size) ops v w h hB h80)
  have HLo := Lib.hid (show B.lo = 0 ∧ _ from ⟨hlo, hex⟩)
  have HS := Lib.hid hs
  clear hB hB' h h80 hlo hex hs
  go_enter Try.func4, Try.ntmps4
  go_wp2_with fail
  refine HPl.out.mono ?_
  rintro e w1 ⟨a1, n1, c1, a2, n2, c2, n, rfl, hb1, hbl⟩
  obtain ⟨b, hb⟩ : ∃ b, playB ops = b := ⟨_, rfl⟩
  have hR : RightB b := by rw [← hb]; exact play_right _
  rw [hb] at hbl
  have hsp : s ≤ w1.heap.size := by rw [HS.out]; exact hb1.size
  have HBl := Lib.hid hbl
  have HR := Lib.hid hR
  have HN := Lib.hid (show b.2.2 = n ∧ b.1.length = n1 ∧ b.2.1.length = n2 by
    obtain ⟨x, y, e, h1, h2⟩ := hbl
    simp only [Value.agg.injEq, Array.mk.injEq, List.cons.injEq, Value.int.injEq, and_true, true_and] at e
    obtain ⟨rfl, rfl, rfl⟩ := e
    obtain ⟨_, _, e1⟩ := h1.len
    obtain ⟨_, _, e2⟩ := h2.len
    simp only [Value.slice.injEq] at e1 e2
    exact ⟨rfl, e1.2.1.symm, e2.2.1.symm⟩)
  clear hbl hb hR
  rcases mod5 which with hc | hc | hc | hc | hc
  · have hbl' : BL B (b.1, b.2.1, by_) (.agg #[.slice a1 n1 c1, .slice a2 n2 c2, .int .i64 by_]) w1 := by
      obtain ⟨x, y, e, h1, h2⟩ := HBl.out
      simp only [Value.agg.injEq, Array.mk.injEq, List.cons.injEq, and_true] at e
      obtain ⟨rfl, rfl, _⟩ := e
      exact ⟨_, _, rfl, h1, h2⟩
    have hsm : Small (b.1, b.2.1, by_) := by
      have := small_right HR.out
      exact ⟨this.1, this.2.1, this.2.2.1, this.2.2.2⟩
    have hbu := hb1
    obtain ⟨b', hb'⟩ : ∃ b', (b.1, b.2.1, by_) = b' := ⟨_, rfl⟩
    rw [hb'] at hbl' hsm
    obtain ⟨M, hM⟩ : ∃ M, M = w1.alloc (.cells #[.slice a1 n1 c1, .slice a2 n2 c2, .int .i64 by_] 26) := ⟨_, rfl⟩
    have hbM : Below w.heap.size w M := nx hbu (hM ▸ below1 _ _)
    have hx0 : Bx B b' w1.heap.size #[.slice a1 n1 c1, .slice a2 n2 c2, .int .i64 by_] M := by
      have h9 := Bx.made hbl' (HB.out _ hbu).1
      rw [hM]; exact h9
    have HM := Lib.hid hM
    have HX := Lib.hid hx0
    have HSm := Lib.hid hsm
    clear hM hx0 hbl' hsm hb' HBl HPl HN HR
    go_wp2_with fail
    rw [← HM.out]
    refine (place_is (c := place b' 1 1 5 5 true) (Lib.hid rfl) HSm.out B _ M HX.out.bl (HB.out M hbM)).mono ?_
    rintro e w2 ⟨a3, n3, c3, a4, n4, c4, m3, fa, fn, fc, rfl, -, -, hd9, -, -⟩
    obtain ⟨er, her⟩ : ∃ er, (place b' 1 1 5 5 true).2.2.2.2 = er := ⟨_, rfl⟩
    obtain ⟨e1, he1⟩ : ∃ er, (place b' 1 1 5 5 true).2.2.1 = er := ⟨_, rfl⟩
    obtain ⟨e2, he2⟩ : ∃ er, (place b' 1 1 5 5 true).2.2.2.1 = er := ⟨_, rfl⟩
    rw [her, he1, he2]
    have HEr := Lib.hid her
    obtain ⟨M2, hM2⟩ : ∃ M, M = w2.alloc (.cells #[.slice a3 n3 c3, .slice a4 n4 c4, .int .i64 m3] 26) := ⟨_, rfl⟩
    have hx2 := HX.out.stays hd9
    have hd2 := nx hd9 (hM2 ▸ below1 w2 _)
    have HX2 := Lib.hid (HX.out.stays hd2)
    have hbM2 := nx hbM hd2
    have HM2 := Lib.hid hM2
    have r0 := hx2.row
    have z0 := hx2.lt
    clear hM2 hx2 hd9 hd2 her he1 he2 hc
    go_wp2_with fail
    rw [← HM2.out]
    refine (cancel_is (c := cancel b' 1 1) (Lib.hid rfl) HSm.out B _ M2 HX2.out.bl (HB.out M2 hbM2)).mono ?_
    rintro e w3 ⟨a5, n5, c5, a6, n6, c6, m4, rfl, -, hd8, -⟩
    obtain ⟨qq, hqq⟩ : ∃ qq, (cancel b' 1 1).2.1 = qq := ⟨_, rfl⟩
    obtain ⟨ec, hec⟩ : ∃ ec, (cancel b' 1 1).2.2 = ec := ⟨_, rfl⟩
    rw [hqq, hec]
    have hcs := cO_size qq
    have h1c : oneAll (.agg (cO qq)) = true := by cases qq <;> exact one5 _ _ _ _ _
    have HEc := Lib.hid hec
    obtain ⟨M3, hM3⟩ : ∃ M, M = (w3.alloc (.cells #[.slice a5 n5 c5, .slice a6 n6 c6, .int .i64 m4] 26)).alloc (.cells (cO qq) 31) := ⟨_, rfl⟩
    have hx3 := HX2.out.stays hd8
    have hd3 := nx hd8 (hM3 ▸ below2 w3 _ _)
    have HX3 := Lib.hid (HX2.out.stays hd3)
    have hbM3 := nx hbM2 hd3
    have HM3 := Lib.hid hM3
    clear r0 z0
    have r0 := hx3.row
    have z0 := hx3.lt
    have z0' := Nat.lt_succ_of_lt z0
    clear hM3 hx3 hd8 hd3 hqq hec
    go_wp2_with fail
    rw [← HM3.out]
    refine (right_anyB B b' _ M3 HX3.out.bl (HB.out M3 hbM3) HSm.out.1 HSm.out.2.1 HSm.out.2.2.1 HSm.out.2.2.2).mono ?_
    rintro e w4 ⟨rfl, hb4⟩
    have hbw4 := nx hbM3 hb4
    have HX4 := Lib.hid (HX3.out.stays hb4)
    clear r0 z0 z0'
    have r0 := HX4.out.row
    have z0 := HX4.out.lt
    obtain ⟨rb, hrb⟩ : ∃ rb, rightB b' = rb := ⟨_, rfl⟩
    rw [hrb]
    go_wp2_with fail
    refine (rRightB_any B b' _ w4 HX4.out.bl (HB.out w4 hbw4) (Nat.le_trans HSm.out.1 (by decide)) (Nat.le_trans HSm.out.2.1 (by decide)) (Nat.le_trans HSm.out.2.2.1 (by decide)) (Nat.le_trans HSm.out.2.2.2 (by decide))).mono ?_
    rintro e w5 ⟨rfl, hb5⟩
    rw [hrb]
    have hbw5 := nx hbw4 hb5
    clear r0 z0 hb4 hb5
    cases rb
    · obtain rfl : er = 1 := by rw [← HEr.out]; unfold place; rw [hrb]; rfl
      obtain rfl : ec = 1 := by rw [← HEc.out]; unfold cancel; rw [hrb]; rfl
      clear hrb
      go_wp2_with fail
      refine (awake_any w5).mono ?_
      rintro e w6 ⟨rfl, hb6⟩
      go_wp2
      go_ret
      exact ⟨rfl, nx hbw5 hb6⟩
    · clear hrb
      go_wp2_with fail
      refine (awake_any w5).mono ?_
      rintro e w6 ⟨rfl, hb6⟩
      go_wp2
      go_ret
      exact ⟨rfl, nx hbw5 hb6⟩
  · have hbl' : BL B (b.2.1, b.1, n) (.agg #[.slice a2 n2 c2, .slice a1 n1 c1, .int .i64 n]) w1 := by
      obtain ⟨x, y, e, h1, h2⟩ := HBl.out
      simp only [Value.agg.injEq, Array.mk.injEq, List.cons.injEq, and_true] at e
      obtain ⟨rfl, rfl, _⟩ := e
      exact ⟨_, _, rfl, h2, h1⟩
    have hsm : Small (b.2.1, b.1, n) := by
      have := small_right HR.out
      exact ⟨this.2.2.1, this.2.2.2, this.1, this.2.1⟩
    have hbu := hb1
    obtain ⟨b', hb'⟩ : ∃ b', (b.2.1, b.1, n) = b' := ⟨_, rfl⟩
    rw [hb'] at hbl' hsm
    obtain ⟨M, hM⟩ : ∃ M, M = w1.alloc (.cells #[.slice a2 n2 c2, .slice a1 n1 c1, .int .i64 n] 26) := ⟨_, rfl⟩
    have hbM : Below w.heap.size w M := nx hbu (hM ▸ below1 _ _)
    have hx0 : Bx B b' w1.heap.size #[.slice a2 n2 c2, .slice a1 n1 c1, .int .i64 n] M := by
      have h9 := Bx.made hbl' (HB.out _ hbu).1
      rw [hM]; exact h9
    have HM := Lib.hid hM
    have HX := Lib.hid hx0
    have HSm := Lib.hid hsm
    clear hM hx0 hbl' hsm hb' HBl HPl HN HR
    go_wp2_with fail
    rw [← HM.out]
    refine (place_is (c := place b' 1 1 5 5 true) (Lib.hid rfl) HSm.out B _ M HX.out.bl (HB.out M hbM)).mono ?_
    rintro e w2 ⟨a3, n3, c3, a4, n4, c4, m3, fa, fn, fc, rfl, -, -, hd9, -, -⟩
    obtain ⟨er, her⟩ : ∃ er, (place b' 1 1 5 5 true).2.2.2.2 = er := ⟨_, rfl⟩
    obtain ⟨e1, he1⟩ : ∃ er, (place b' 1 1 5 5 true).2.2.1 = er := ⟨_, rfl⟩
    obtain ⟨e2, he2⟩ : ∃ er, (place b' 1 1 5 5 true).2.2.2.1 = er := ⟨_, rfl⟩
    rw [her, he1, he2]
    have HEr := Lib.hid her
    obtain ⟨M2, hM2⟩ : ∃ M, M = w2.alloc (.cells #[.slice a3 n3 c3, .slice a4 n4 c4, .int .i64 m3] 26) := ⟨_, rfl⟩
    have hx2 := HX.out.stays hd9
    have hd2 := nx hd9 (hM2 ▸ below1 w2 _)
    have HX2 := Lib.hid (HX.out.stays hd2)
    have hbM2 := nx hbM hd2
    have HM2 := Lib.hid hM2
    have r0 := hx2.row
    have z0 := hx2.lt
    clear hM2 hx2 hd9 hd2 her he1 he2 hc
    go_wp2_with fail
    rw [← HM2.out]
    refine (cancel_is (c := cancel b' 1 1) (Lib.hid rfl) HSm.out B _ M2 HX2.out.bl (HB.out M2 hbM2)).mono ?_
    rintro e w3 ⟨a5, n5, c5, a6, n6, c6, m4, rfl, -, hd8, -⟩
    obtain ⟨qq, hqq⟩ : ∃ qq, (cancel b' 1 1).2.1 = qq := ⟨_, rfl⟩
    obtain ⟨ec, hec⟩ : ∃ ec, (cancel b' 1 1).2.2 = ec := ⟨_, rfl⟩
    rw [hqq, hec]
    have hcs := cO_size qq
    have h1c : oneAll (.agg (cO qq)) = true := by cases qq <;> exact one5 _ _ _ _ _
    have HEc := Lib.hid hec
    obtain ⟨M3, hM3⟩ : ∃ M, M = (w3.alloc (.cells #[.slice a5 n5 c5, .slice a6 n6 c6, .int .i64 m4] 26)).alloc (.cells (cO qq) 31) := ⟨_, rfl⟩
    have hx3 := HX2.out.stays hd8
    have hd3 := nx hd8 (hM3 ▸ below2 w3 _ _)
    have HX3 := Lib.hid (HX2.out.stays hd3)
    have hbM3 := nx hbM2 hd3
    have HM3 := Lib.hid hM3
    clear r0 z0
    have r0 := hx3.row
    have z0 := hx3.lt
    have z0' := Nat.lt_succ_of_lt z0
    clear hM3 hx3 hd8 hd3 hqq hec
    go_wp2_with fail
    rw [← HM3.out]
    refine (right_anyB B b' _ M3 HX3.out.bl (HB.out M3 hbM3) HSm.out.1 HSm.out.2.1 HSm.out.2.2.1 HSm.out.2.2.2).mono ?_
    rintro e w4 ⟨rfl, hb4⟩
    have hbw4 := nx hbM3 hb4
    have HX4 := Lib.hid (HX3.out.stays hb4)
    clear r0 z0 z0'
    have r0 := HX4.out.row
    have z0 := HX4.out.lt
    obtain ⟨rb, hrb⟩ : ∃ rb, rightB b' = rb := ⟨_, rfl⟩
    rw [hrb]
    go_wp2_with fail
    refine (rRightB_any B b' _ w4 HX4.out.bl (HB.out w4 hbw4) (Nat.le_trans HSm.out.1 (by decide)) (Nat.le_trans HSm.out.2.1 (by decide)) (Nat.le_trans HSm.out.2.2.1 (by decide)) (Nat.le_trans HSm.out.2.2.2 (by decide))).mono ?_
    rintro e w5 ⟨rfl, hb5⟩
    rw [hrb]
    have hbw5 := nx hbw4 hb5
    clear r0 z0 hb4 hb5
    cases rb
    · obtain rfl : er = 1 := by rw [← HEr.out]; unfold place; rw [hrb]; rfl
      obtain rfl : ec = 1 := by rw [← HEc.out]; unfold cancel; rw [hrb]; rfl
      clear hrb
      go_wp2_with fail
      refine (awake_any w5).mono ?_
      rintro e w6 ⟨rfl, hb6⟩
      go_wp2
      go_ret
      exact ⟨rfl, nx hbw5 hb6⟩
    · clear hrb
      go_wp2_with fail
      refine (awake_any w5).mono ?_
      rintro e w6 ⟨rfl, hb6⟩
      go_wp2
      go_ret
      exact ⟨rfl, nx hbw5 hb6⟩
  · by_cases hn0 : 0 < n1
    · have dn : decide ((0 : Int) < n1) = true := decide_eq_true (by omega)
      have dn' : decide (0 < n1) = true := decide_eq_true hn0
      have hll : LL B b.1 (.slice a1 n1 c1) w1 := by
        obtain ⟨x, y, e, h1, h2⟩ := HBl.out
        simp only [Value.agg.injEq, Array.mk.injEq, List.cons.injEq, and_true] at e
        obtain ⟨rfl, _⟩ := e
        exact h1
      obtain ⟨g, off, g2, off2, ⟨k2, c2'⟩, rfl, ⟨cur, hl⟩, hx1, ⟨cur2, hl2⟩, hx2, ⟨x0, hq0⟩, hq1, hpos, ⟨x1, ho0⟩, ⟨x3, ho3⟩⟩ := first_of HLo.out.1 hll hn0 (first_pos HR.out.buys)
      simp only at hq1 hpos
      have sg := HLo.out.2 g hx1
      have sg2 := HLo.out.2 g2 hx2
      have hz0 : g < w1.heap.size := (Array.getElem?_eq_some_iff.1 hl).1
      have hz2 : g2 < w1.heap.size := (Array.getElem?_eq_some_iff.1 hl2).1
      have f0 : w1.frozen? ⟨g, off, none⟩ = false := by simp [World.frozen?, hl]
      have hne : (⟨g, off, none⟩ : Addr) ≠ ⟨g2, off2 + 3, none⟩ := fun e => by
        simp only [Addr.mk.injEq, and_true] at e
        obtain ⟨rfl, _⟩ := e
        rw [hl] at hl2
        simp only [Option.some.injEq, Obj.cells.injEq, and_true] at hl2
        exact absurd hl2.2 (by decide)
      have hs1 := soft_set by_ hq0
      have q1' := (World.cell?_setCell_other w1 ⟨g, off, none⟩ ⟨g, off + 1, none⟩ (.int .i64 by_) (by simp)).trans hq1
      have o3' := (World.cell?_setCell_other w1 ⟨g, off, none⟩ ⟨g2, off2 + 3, none⟩ (.int .i64 by_) hne).trans ho3
      have f3' : (w1.setCell ⟨g, off, none⟩ (.int .i64 by_)).frozen? ⟨g2, off2 + 3, none⟩ = false := by
        obtain ⟨cur', e⟩ := hs1.ty _ _ _ hl2
        simp [World.frozen?, e]
      have hs2 := hs1.trans (soft_set by_ o3')
      obtain ⟨b2, hsh, hbl'⟩ := BL.soft HLo.out.1 HBl.out hs2
      have hsm := hsh.small (small_right HR.out)
      obtain ⟨U, hU⟩ : ∃ U, U = (w1.setCell ⟨g, off, none⟩ (.int .i64 by_)).setCell ⟨g2, off2 + 3, none⟩ (.int .i64 by_) := ⟨_, rfl⟩
      rw [← hU] at hbl'
      have hbu : Below w.heap.size w U := by
        rw [hU]
        exact (hb1.trans (low_setCell off (.int .i64 by_) (by rw [← HS.out]; exact sg))).trans (low_setCell (off2 + 3) (.int .i64 by_) (by rw [← HS.out]; exact sg2))
      have hzU : U.heap.size = w1.heap.size := by rw [hU]; simp
      have HUf := Lib.hid hU
      clear hs1 hs2 hsh hU hl hl2 hx1 hx2 ho0 hll
      obtain ⟨b', hb'⟩ : ∃ b', b2 = b' := ⟨_, rfl⟩
      rw [hb'] at hbl' hsm
      obtain ⟨M, hM⟩ : ∃ M, M = U.alloc (.cells #[.slice (some ⟨g, off, none⟩) n1 c1, .slice a2 n2 c2, .int .i64 n] 26) := ⟨_, rfl⟩
      have hbM : Below w.heap.size w M := nx hbu (hM ▸ below1 _ _)
      have hx0 : Bx B b' w1.heap.size #[.slice (some ⟨g, off, none⟩) n1 c1, .slice a2 n2 c2, .int .i64 n] M := by
        have h9 := Bx.made hbl' (HB.out _ hbu).1
        rw [hzU] at h9
        rw [hM]; exact h9
      have HM := Lib.hid hM
      have HX := Lib.hid hx0
      have HSm := Lib.hid hsm
      clear hM hx0 hbl' hsm hb' HBl HPl HN HR
      go_wp2_with fail
      rw [← HUf.out]
      rw [← HM.out]
      refine (place_is (c := place b' 1 1 5 5 true) (Lib.hid rfl) HSm.out B _ M HX.out.bl (HB.out M hbM)).mono ?_
      rintro e w2 ⟨a3, n3, c3, a4, n4, c4, m3, fa, fn, fc, rfl, -, -, hd9, -, -⟩
      obtain ⟨er, her⟩ : ∃ er, (place b' 1 1 5 5 true).2.2.2.2 = er := ⟨_, rfl⟩
      obtain ⟨e1, he1⟩ : ∃ er, (place b' 1 1 5 5 true).2.2.1 = er := ⟨_, rfl⟩
      obtain ⟨e2, he2⟩ : ∃ er, (place b' 1 1 5 5 true).2.2.2.1 = er := ⟨_, rfl⟩
      rw [her, he1, he2]
      have HEr := Lib.hid her
      obtain ⟨M2, hM2⟩ : ∃ M, M = w2.alloc (.cells #[.slice a3 n3 c3, .slice a4 n4 c4, .int .i64 m3] 26) := ⟨_, rfl⟩
      have hx2 := HX.out.stays hd9
      have hd2 := nx hd9 (hM2 ▸ below1 w2 _)
      have HX2 := Lib.hid (HX.out.stays hd2)
      have hbM2 := nx hbM hd2
      have HM2 := Lib.hid hM2
      have r0 := hx2.row
      have z0 := hx2.lt
      clear hM2 hx2 hd9 hd2 her he1 he2 hc
      go_wp2_with fail
      rw [← HM2.out]
      refine (cancel_is (c := cancel b' 1 1) (Lib.hid rfl) HSm.out B _ M2 HX2.out.bl (HB.out M2 hbM2)).mono ?_
      rintro e w3 ⟨a5, n5, c5, a6, n6, c6, m4, rfl, -, hd8, -⟩
      obtain ⟨qq, hqq⟩ : ∃ qq, (cancel b' 1 1).2.1 = qq := ⟨_, rfl⟩
      obtain ⟨ec, hec⟩ : ∃ ec, (cancel b' 1 1).2.2 = ec := ⟨_, rfl⟩
      rw [hqq, hec]
      have hcs := cO_size qq
      have h1c : oneAll (.agg (cO qq)) = true := by cases qq <;> exact one5 _ _ _ _ _
      have HEc := Lib.hid hec
      obtain ⟨M3, hM3⟩ : ∃ M, M = (w3.alloc (.cells #[.slice a5 n5 c5, .slice a6 n6 c6, .int .i64 m4] 26)).alloc (.cells (cO qq) 31) := ⟨_, rfl⟩
      have hx3 := HX2.out.stays hd8
      have hd3 := nx hd8 (hM3 ▸ below2 w3 _ _)
      have HX3 := Lib.hid (HX2.out.stays hd3)
      have hbM3 := nx hbM2 hd3
      have HM3 := Lib.hid hM3
      clear r0 z0
      have r0 := hx3.row
      have z0 := hx3.lt
      have z0' := Nat.lt_succ_of_lt z0
      clear hM3 hx3 hd8 hd3 hqq hec
      go_wp2_with fail
      rw [← HM3.out]
      refine (right_anyB B b' _ M3 HX3.out.bl (HB.out M3 hbM3) HSm.out.1 HSm.out.2.1 HSm.out.2.2.1 HSm.out.2.2.2).mono ?_
      rintro e w4 ⟨rfl, hb4⟩
      have hbw4 := nx hbM3 hb4
      have HX4 := Lib.hid (HX3.out.stays hb4)
      clear r0 z0 z0'
      have r0 := HX4.out.row
      have z0 := HX4.out.lt
      obtain ⟨rb, hrb⟩ : ∃ rb, rightB b' = rb := ⟨_, rfl⟩
      rw [hrb]
      go_wp2_with fail
      refine (rRightB_any B b' _ w4 HX4.out.bl (HB.out w4 hbw4) (Nat.le_trans HSm.out.1 (by decide)) (Nat.le_trans HSm.out.2.1 (by decide)) (Nat.le_trans HSm.out.2.2.1 (by decide)) (Nat.le_trans HSm.out.2.2.2 (by decide))).mono ?_
      rintro e w5 ⟨rfl, hb5⟩
      rw [hrb]
      have hbw5 := nx hbw4 hb5
      clear r0 z0 hb4 hb5
      cases rb
      · obtain rfl : er = 1 := by rw [← HEr.out]; unfold place; rw [hrb]; rfl
        obtain rfl : ec = 1 := by rw [← HEc.out]; unfold cancel; rw [hrb]; rfl
        clear hrb
        go_wp2_with fail
        refine (awake_any w5).mono ?_
        rintro e w6 ⟨rfl, hb6⟩
        go_wp2
        go_ret
        exact ⟨rfl, nx hbw5 hb6⟩
      · clear hrb
        go_wp2_with fail
        refine (awake_any w5).mono ?_
        rintro e w6 ⟨rfl, hb6⟩
        go_wp2
        go_ret
        exact ⟨rfl, nx hbw5 hb6⟩
    · have dn : decide ((0 : Int) < n1) = false := decide_eq_false (by omega)
      have dn' : decide (0 < n1) = false := decide_eq_false hn0
      have hbl' := HBl.out
      have hsm := small_right HR.out
      have hbu := hb1
      obtain ⟨b', hb'⟩ : ∃ b', b = b' := ⟨_, rfl⟩
      rw [hb'] at hbl' hsm
      obtain ⟨M, hM⟩ : ∃ M, M = w1.alloc (.cells #[.slice a1 n1 c1, .slice a2 n2 c2, .int .i64 n] 26) := ⟨_, rfl⟩
      have hbM : Below w.heap.size w M := nx hbu (hM ▸ below1 _ _)
      have hx0 : Bx B b' w1.heap.size #[.slice a1 n1 c1, .slice a2 n2 c2, .int .i64 n] M := by
        have h9 := Bx.made hbl' (HB.out _ hbu).1
        rw [hM]; exact h9
      have HM := Lib.hid hM
      have HX := Lib.hid hx0
      have HSm := Lib.hid hsm
      clear hM hx0 hbl' hsm hb' HBl HPl HN HR
      go_wp2_with fail
      rw [← HM.out]
      refine (place_is (c := place b' 1 1 5 5 true) (Lib.hid rfl) HSm.out B _ M HX.out.bl (HB.out M hbM)).mono ?_
      rintro e w2 ⟨a3, n3, c3, a4, n4, c4, m3, fa, fn, fc, rfl, -, -, hd9, -, -⟩
      obtain ⟨er, her⟩ : ∃ er, (place b' 1 1 5 5 true).2.2.2.2 = er := ⟨_, rfl⟩
      obtain ⟨e1, he1⟩ : ∃ er, (place b' 1 1 5 5 true).2.2.1 = er := ⟨_, rfl⟩
      obtain ⟨e2, he2⟩ : ∃ er, (place b' 1 1 5 5 true).2.2.2.1 = er := ⟨_, rfl⟩
      rw [her, he1, he2]
      have HEr := Lib.hid her
      obtain ⟨M2, hM2⟩ : ∃ M, M = w2.alloc (.cells #[.slice a3 n3 c3, .slice a4 n4 c4, .int .i64 m3] 26) := ⟨_, rfl⟩
      have hx2 := HX.out.stays hd9
      have hd2 := nx hd9 (hM2 ▸ below1 w2 _)
      have HX2 := Lib.hid (HX.out.stays hd2)
      have hbM2 := nx hbM hd2
      have HM2 := Lib.hid hM2
      have r0 := hx2.row
      have z0 := hx2.lt
      clear hM2 hx2 hd9 hd2 her he1 he2 hc
      go_wp2_with fail
      rw [← HM2.out]
      refine (cancel_is (c := cancel b' 1 1) (Lib.hid rfl) HSm.out B _ M2 HX2.out.bl (HB.out M2 hbM2)).mono ?_
      rintro e w3 ⟨a5, n5, c5, a6, n6, c6, m4, rfl, -, hd8, -⟩
      obtain ⟨qq, hqq⟩ : ∃ qq, (cancel b' 1 1).2.1 = qq := ⟨_, rfl⟩
      obtain ⟨ec, hec⟩ : ∃ ec, (cancel b' 1 1).2.2 = ec := ⟨_, rfl⟩
      rw [hqq, hec]
      have hcs := cO_size qq
      have h1c : oneAll (.agg (cO qq)) = true := by cases qq <;> exact one5 _ _ _ _ _
      have HEc := Lib.hid hec
      obtain ⟨M3, hM3⟩ : ∃ M, M = (w3.alloc (.cells #[.slice a5 n5 c5, .slice a6 n6 c6, .int .i64 m4] 26)).alloc (.cells (cO qq) 31) := ⟨_, rfl⟩
      have hx3 := HX2.out.stays hd8
      have hd3 := nx hd8 (hM3 ▸ below2 w3 _ _)
      have HX3 := Lib.hid (HX2.out.stays hd3)
      have hbM3 := nx hbM2 hd3
      have HM3 := Lib.hid hM3
      clear r0 z0
      have r0 := hx3.row
      have z0 := hx3.lt
      have z0' := Nat.lt_succ_of_lt z0
      clear hM3 hx3 hd8 hd3 hqq hec
      go_wp2_with fail
      rw [← HM3.out]
      refine (right_anyB B b' _ M3 HX3.out.bl (HB.out M3 hbM3) HSm.out.1 HSm.out.2.1 HSm.out.2.2.1 HSm.out.2.2.2).mono ?_
      rintro e w4 ⟨rfl, hb4⟩
      have hbw4 := nx hbM3 hb4
      have HX4 := Lib.hid (HX3.out.stays hb4)
      clear r0 z0 z0'
      have r0 := HX4.out.row
      have z0 := HX4.out.lt
      obtain ⟨rb, hrb⟩ : ∃ rb, rightB b' = rb := ⟨_, rfl⟩
      rw [hrb]
      go_wp2_with fail
      refine (rRightB_any B b' _ w4 HX4.out.bl (HB.out w4 hbw4) (Nat.le_trans HSm.out.1 (by decide)) (Nat.le_trans HSm.out.2.1 (by decide)) (Nat.le_trans HSm.out.2.2.1 (by decide)) (Nat.le_trans HSm.out.2.2.2 (by decide))).mono ?_
      rintro e w5 ⟨rfl, hb5⟩
      rw [hrb]
      have hbw5 := nx hbw4 hb5
      clear r0 z0 hb4 hb5
      cases rb
      · obtain rfl : er = 1 := by rw [← HEr.out]; unfold place; rw [hrb]; rfl
        obtain rfl : ec = 1 := by rw [← HEc.out]; unfold cancel; rw [hrb]; rfl
        clear hrb
        go_wp2_with fail
        refine (awake_any w5).mono ?_
        rintro e w6 ⟨rfl, hb6⟩
        go_wp2
        go_ret
        exact ⟨rfl, nx hbw5 hb6⟩
      · clear hrb
        go_wp2_with fail
        refine (awake_any w5).mono ?_
        rintro e w6 ⟨rfl, hb6⟩
        go_wp2
        go_ret
        exact ⟨rfl, nx hbw5 hb6⟩
  · by_cases hn0 : 0 < n2
    · have dn : decide ((0 : Int) < n2) = true := decide_eq_true (by omega)
      have dn' : decide (0 < n2) = true := decide_eq_true hn0
      have hll : LL B b.2.1 (.slice a2 n2 c2) w1 := by
        obtain ⟨x, y, e, h1, h2⟩ := HBl.out
        simp only [Value.agg.injEq, Array.mk.injEq, List.cons.injEq, and_true] at e
        obtain ⟨_, rfl, _⟩ := e
        exact h2
      obtain ⟨g, off, g2, off2, ⟨k2, c2'⟩, rfl, ⟨cur, hl⟩, hx1, ⟨cur2, hl2⟩, hx2, ⟨x0, hq0⟩, hq1, hpos, ⟨x1, ho0⟩, ⟨x3, ho3⟩⟩ := first_of HLo.out.1 hll hn0 (first_pos HR.out.sells)
      simp only at hq1 hpos
      have sg2 := HLo.out.2 g2 hx2
      have hz0 : g < w1.heap.size := (Array.getElem?_eq_some_iff.1 hl).1
      have hz2 : g2 < w1.heap.size := (Array.getElem?_eq_some_iff.1 hl2).1
      have f0 : w1.frozen? ⟨g2, off2, none⟩ = false := by simp [World.frozen?, hl2]
      have hs1 := soft_set by_ ho0
      obtain ⟨b2, hsh, hbl'⟩ := BL.soft HLo.out.1 HBl.out hs1
      have hsm := hsh.small (small_right HR.out)
      obtain ⟨U, hU⟩ : ∃ U, U = w1.setCell ⟨g2, off2, none⟩ (.int .i64 by_) := ⟨_, rfl⟩
      rw [← hU] at hbl'
      have hbu : Below w.heap.size w U := by
        rw [hU]
        exact hb1.trans (low_setCell off2 (.int .i64 by_) (by rw [← HS.out]; exact sg2))
      have hzU : U.heap.size = w1.heap.size := by rw [hU]; simp
      have HUf := Lib.hid hU
      clear hs1 hsh hU hl hl2 hx1 hx2 hll ho3 hq0
      obtain ⟨b', hb'⟩ : ∃ b', b2 = b' := ⟨_, rfl⟩
      rw [hb'] at hbl' hsm
      obtain ⟨M, hM⟩ : ∃ M, M = U.alloc (.cells #[.slice a1 n1 c1, .slice (some ⟨g, off, none⟩) n2 c2, .int .i64 n] 26) := ⟨_, rfl⟩
      have hbM : Below w.heap.size w M := nx hbu (hM ▸ below1 _ _)
      have hx0 : Bx B b' w1.heap.size #[.slice a1 n1 c1, .slice (some ⟨g, off, none⟩) n2 c2, .int .i64 n] M := by
        have h9 := Bx.made hbl' (HB.out _ hbu).1
        rw [hzU] at h9
        rw [hM]; exact h9
      have HM := Lib.hid hM
      have HX := Lib.hid hx0
      have HSm := Lib.hid hsm
      clear hM hx0 hbl' hsm hb' HBl HPl HN HR
      go_wp2_with fail
      rw [← HUf.out]
      rw [← HM.out]
      refine (place_is (c := place b' 1 1 5 5 true) (Lib.hid rfl) HSm.out B _ M HX.out.bl (HB.out M hbM)).mono ?_
      rintro e w2 ⟨a3, n3, c3, a4, n4, c4, m3, fa, fn, fc, rfl, -, -, hd9, -, -⟩
      obtain ⟨er, her⟩ : ∃ er, (place b' 1 1 5 5 true).2.2.2.2 = er := ⟨_, rfl⟩
      obtain ⟨e1, he1⟩ : ∃ er, (place b' 1 1 5 5 true).2.2.1 = er := ⟨_, rfl⟩
      obtain ⟨e2, he2⟩ : ∃ er, (place b' 1 1 5 5 true).2.2.2.1 = er := ⟨_, rfl⟩
      rw [her, he1, he2]
      have HEr := Lib.hid her
      obtain ⟨M2, hM2⟩ : ∃ M, M = w2.alloc (.cells #[.slice a3 n3 c3, .slice a4 n4 c4, .int .i64 m3] 26) := ⟨_, rfl⟩
      have hx2 := HX.out.stays hd9
      have hd2 := nx hd9 (hM2 ▸ below1 w2 _)
      have HX2 := Lib.hid (HX.out.stays hd2)
      have hbM2 := nx hbM hd2
      have HM2 := Lib.hid hM2
      have r0 := hx2.row
      have z0 := hx2.lt
      clear hM2 hx2 hd9 hd2 her he1 he2 hc
      go_wp2_with fail
      rw [← HM2.out]
      refine (cancel_is (c := cancel b' 1 1) (Lib.hid rfl) HSm.out B _ M2 HX2.out.bl (HB.out M2 hbM2)).mono ?_
      rintro e w3 ⟨a5, n5, c5, a6, n6, c6, m4, rfl, -, hd8, -⟩
      obtain ⟨qq, hqq⟩ : ∃ qq, (cancel b' 1 1).2.1 = qq := ⟨_, rfl⟩
      obtain ⟨ec, hec⟩ : ∃ ec, (cancel b' 1 1).2.2 = ec := ⟨_, rfl⟩
      rw [hqq, hec]
      have hcs := cO_size qq
      have h1c : oneAll (.agg (cO qq)) = true := by cases qq <;> exact one5 _ _ _ _ _
      have HEc := Lib.hid hec
      obtain ⟨M3, hM3⟩ : ∃ M, M = (w3.alloc (.cells #[.slice a5 n5 c5, .slice a6 n6 c6, .int .i64 m4] 26)).alloc (.cells (cO qq) 31) := ⟨_, rfl⟩
      have hx3 := HX2.out.stays hd8
      have hd3 := nx hd8 (hM3 ▸ below2 w3 _ _)
      have HX3 := Lib.hid (HX2.out.stays hd3)
      have hbM3 := nx hbM2 hd3
      have HM3 := Lib.hid hM3
      clear r0 z0
      have r0 := hx3.row
      have z0 := hx3.lt
      have z0' := Nat.lt_succ_of_lt z0
      clear hM3 hx3 hd8 hd3 hqq hec
      go_wp2_with fail
      rw [← HM3.out]
      refine (right_anyB B b' _ M3 HX3.out.bl (HB.out M3 hbM3) HSm.out.1 HSm.out.2.1 HSm.out.2.2.1 HSm.out.2.2.2).mono ?_
      rintro e w4 ⟨rfl, hb4⟩
      have hbw4 := nx hbM3 hb4
      have HX4 := Lib.hid (HX3.out.stays hb4)
      clear r0 z0 z0'
      have r0 := HX4.out.row
      have z0 := HX4.out.lt
      obtain ⟨rb, hrb⟩ : ∃ rb, rightB b' = rb := ⟨_, rfl⟩
      rw [hrb]
      go_wp2_with fail
      refine (rRightB_any B b' _ w4 HX4.out.bl (HB.out w4 hbw4) (Nat.le_trans HSm.out.1 (by decide)) (Nat.le_trans HSm.out.2.1 (by decide)) (Nat.le_trans HSm.out.2.2.1 (by decide)) (Nat.le_trans HSm.out.2.2.2 (by decide))).mono ?_
      rintro e w5 ⟨rfl, hb5⟩
      rw [hrb]
      have hbw5 := nx hbw4 hb5
      clear r0 z0 hb4 hb5
      cases rb
      · obtain rfl : er = 1 := by rw [← HEr.out]; unfold place; rw [hrb]; rfl
        obtain rfl : ec = 1 := by rw [← HEc.out]; unfold cancel; rw [hrb]; rfl
        clear hrb
        go_wp2_with fail
        refine (awake_any w5).mono ?_
        rintro e w6 ⟨rfl, hb6⟩
        go_wp2
        go_ret
        exact ⟨rfl, nx hbw5 hb6⟩
      · clear hrb
        go_wp2_with fail
        refine (awake_any w5).mono ?_
        rintro e w6 ⟨rfl, hb6⟩
        go_wp2
        go_ret
        exact ⟨rfl, nx hbw5 hb6⟩
    · have dn : decide ((0 : Int) < n2) = false := decide_eq_false (by omega)
      have dn' : decide (0 < n2) = false := decide_eq_false hn0
      have hbl' := HBl.out
      have hsm := small_right HR.out
      have hbu := hb1
      obtain ⟨b', hb'⟩ : ∃ b', b = b' := ⟨_, rfl⟩
      rw [hb'] at hbl' hsm
      obtain ⟨M, hM⟩ : ∃ M, M = w1.alloc (.cells #[.slice a1 n1 c1, .slice a2 n2 c2, .int .i64 n] 26) := ⟨_, rfl⟩
      have hbM : Below w.heap.size w M := nx hbu (hM ▸ below1 _ _)
      have hx0 : Bx B b' w1.heap.size #[.slice a1 n1 c1, .slice a2 n2 c2, .int .i64 n] M := by
        have h9 := Bx.made hbl' (HB.out _ hbu).1
        rw [hM]; exact h9
      have HM := Lib.hid hM
      have HX := Lib.hid hx0
      have HSm := Lib.hid hsm
      clear hM hx0 hbl' hsm hb' HBl HPl HN HR
      go_wp2_with fail
      rw [← HM.out]
      refine (place_is (c := place b' 1 1 5 5 true) (Lib.hid rfl) HSm.out B _ M HX.out.bl (HB.out M hbM)).mono ?_
      rintro e w2 ⟨a3, n3, c3, a4, n4, c4, m3, fa, fn, fc, rfl, -, -, hd9, -, -⟩
      obtain ⟨er, her⟩ : ∃ er, (place b' 1 1 5 5 true).2.2.2.2 = er := ⟨_, rfl⟩
      obtain ⟨e1, he1⟩ : ∃ er, (place b' 1 1 5 5 true).2.2.1 = er := ⟨_, rfl⟩
      obtain ⟨e2, he2⟩ : ∃ er, (place b' 1 1 5 5 true).2.2.2.1 = er := ⟨_, rfl⟩
      rw [her, he1, he2]
      have HEr := Lib.hid her
      obtain ⟨M2, hM2⟩ : ∃ M, M = w2.alloc (.cells #[.slice a3 n3 c3, .slice a4 n4 c4, .int .i64 m3] 26) := ⟨_, rfl⟩
      have hx2 := HX.out.stays hd9
      have hd2 := nx hd9 (hM2 ▸ below1 w2 _)
      have HX2 := Lib.hid (HX.out.stays hd2)
      have hbM2 := nx hbM hd2
      have HM2 := Lib.hid hM2
      have r0 := hx2.row
      have z0 := hx2.lt
      clear hM2 hx2 hd9 hd2 her he1 he2 hc
      go_wp2_with fail
      rw [← HM2.out]
      refine (cancel_is (c := cancel b' 1 1) (Lib.hid rfl) HSm.out B _ M2 HX2.out.bl (HB.out M2 hbM2)).mono ?_
      rintro e w3 ⟨a5, n5, c5, a6, n6, c6, m4, rfl, -, hd8, -⟩
      obtain ⟨qq, hqq⟩ : ∃ qq, (cancel b' 1 1).2.1 = qq := ⟨_, rfl⟩
      obtain ⟨ec, hec⟩ : ∃ ec, (cancel b' 1 1).2.2 = ec := ⟨_, rfl⟩
      rw [hqq, hec]
      have hcs := cO_size qq
      have h1c : oneAll (.agg (cO qq)) = true := by cases qq <;> exact one5 _ _ _ _ _
      have HEc := Lib.hid hec
      obtain ⟨M3, hM3⟩ : ∃ M, M = (w3.alloc (.cells #[.slice a5 n5 c5, .slice a6 n6 c6, .int .i64 m4] 26)).alloc (.cells (cO qq) 31) := ⟨_, rfl⟩
      have hx3 := HX2.out.stays hd8
      have hd3 := nx hd8 (hM3 ▸ below2 w3 _ _)
      have HX3 := Lib.hid (HX2.out.stays hd3)
      have hbM3 := nx hbM2 hd3
      have HM3 := Lib.hid hM3
      clear r0 z0
      have r0 := hx3.row
      have z0 := hx3.lt
      have z0' := Nat.lt_succ_of_lt z0
      clear hM3 hx3 hd8 hd3 hqq hec
      go_wp2_with fail
      rw [← HM3.out]
      refine (right_anyB B b' _ M3 HX3.out.bl (HB.out M3 hbM3) HSm.out.1 HSm.out.2.1 HSm.out.2.2.1 HSm.out.2.2.2).mono ?_
      rintro e w4 ⟨rfl, hb4⟩
      have hbw4 := nx hbM3 hb4
      have HX4 := Lib.hid (HX3.out.stays hb4)
      clear r0 z0 z0'
      have r0 := HX4.out.row
      have z0 := HX4.out.lt
      obtain ⟨rb, hrb⟩ : ∃ rb, rightB b' = rb := ⟨_, rfl⟩
      rw [hrb]
      go_wp2_with fail
      refine (rRightB_any B b' _ w4 HX4.out.bl (HB.out w4 hbw4) (Nat.le_trans HSm.out.1 (by decide)) (Nat.le_trans HSm.out.2.1 (by decide)) (Nat.le_trans HSm.out.2.2.1 (by decide)) (Nat.le_trans HSm.out.2.2.2 (by decide))).mono ?_
      rintro e w5 ⟨rfl, hb5⟩
      rw [hrb]
      have hbw5 := nx hbw4 hb5
      clear r0 z0 hb4 hb5
      cases rb
      · obtain rfl : er = 1 := by rw [← HEr.out]; unfold place; rw [hrb]; rfl
        obtain rfl : ec = 1 := by rw [← HEc.out]; unfold cancel; rw [hrb]; rfl
        clear hrb
        go_wp2_with fail
        refine (awake_any w5).mono ?_
        rintro e w6 ⟨rfl, hb6⟩
        go_wp2
        go_ret
        exact ⟨rfl, nx hbw5 hb6⟩
      · clear hrb
        go_wp2_with fail
        refine (awake_any w5).mono ?_
        rintro e w6 ⟨rfl, hb6⟩
        go_wp2
        go_ret
        exact ⟨rfl, nx hbw5 hb6⟩
  · have hbl' := HBl.out
    have hsm := small_right HR.out
    have hbu := hb1
    obtain ⟨b', hb'⟩ : ∃ b', b = b' := ⟨_, rfl⟩
    rw [hb'] at hbl' hsm
    obtain ⟨M, hM⟩ : ∃ M, M = w1.alloc (.cells #[.slice a1 n1 c1, .slice a2 n2 c2, .int .i64 n] 26) := ⟨_, rfl⟩
    have hbM : Below w.heap.size w M := nx hbu (hM ▸ below1 _ _)
    have hx0 : Bx B b' w1.heap.size #[.slice a1 n1 c1, .slice a2 n2 c2, .int .i64 n] M := by
      have h9 := Bx.made hbl' (HB.out _ hbu).1
      rw [hM]; exact h9
    have HM := Lib.hid hM
    have HX := Lib.hid hx0
    have HSm := Lib.hid hsm
    clear hM hx0 hbl' hsm hb' HBl HPl HN HR
    go_wp2_with fail
    rw [← HM.out]
    refine (place_is (c := place b' 1 1 5 5 true) (Lib.hid rfl) HSm.out B _ M HX.out.bl (HB.out M hbM)).mono ?_
    rintro e w2 ⟨a3, n3, c3, a4, n4, c4, m3, fa, fn, fc, rfl, -, -, hd9, -, -⟩
    obtain ⟨er, her⟩ : ∃ er, (place b' 1 1 5 5 true).2.2.2.2 = er := ⟨_, rfl⟩
    obtain ⟨e1, he1⟩ : ∃ er, (place b' 1 1 5 5 true).2.2.1 = er := ⟨_, rfl⟩
    obtain ⟨e2, he2⟩ : ∃ er, (place b' 1 1 5 5 true).2.2.2.1 = er := ⟨_, rfl⟩
    rw [her, he1, he2]
    have HEr := Lib.hid her
    obtain ⟨M2, hM2⟩ : ∃ M, M = w2.alloc (.cells #[.slice a3 n3 c3, .slice a4 n4 c4, .int .i64 m3] 26) := ⟨_, rfl⟩
    have hx2 := HX.out.stays hd9
    have hd2 := nx hd9 (hM2 ▸ below1 w2 _)
    have HX2 := Lib.hid (HX.out.stays hd2)
    have hbM2 := nx hbM hd2
    have HM2 := Lib.hid hM2
    have r0 := hx2.row
    have z0 := hx2.lt
    clear hM2 hx2 hd9 hd2 her he1 he2 hc
    go_wp2_with fail
    rw [← HM2.out]
    refine (cancel_is (c := cancel b' 1 1) (Lib.hid rfl) HSm.out B _ M2 HX2.out.bl (HB.out M2 hbM2)).mono ?_
    rintro e w3 ⟨a5, n5, c5, a6, n6, c6, m4, rfl, -, hd8, -⟩
    obtain ⟨qq, hqq⟩ : ∃ qq, (cancel b' 1 1).2.1 = qq := ⟨_, rfl⟩
    obtain ⟨ec, hec⟩ : ∃ ec, (cancel b' 1 1).2.2 = ec := ⟨_, rfl⟩
    rw [hqq, hec]
    have hcs := cO_size qq
    have h1c : oneAll (.agg (cO qq)) = true := by cases qq <;> exact one5 _ _ _ _ _
    have HEc := Lib.hid hec
    obtain ⟨M3, hM3⟩ : ∃ M, M = (w3.alloc (.cells #[.slice a5 n5 c5, .slice a6 n6 c6, .int .i64 m4] 26)).alloc (.cells (cO qq) 31) := ⟨_, rfl⟩
    have hx3 := HX2.out.stays hd8
    have hd3 := nx hd8 (hM3 ▸ below2 w3 _ _)
    have HX3 := Lib.hid (HX2.out.stays hd3)
    have hbM3 := nx hbM2 hd3
    have HM3 := Lib.hid hM3
    clear r0 z0
    have r0 := hx3.row
    have z0 := hx3.lt
    have z0' := Nat.lt_succ_of_lt z0
    clear hM3 hx3 hd8 hd3 hqq hec
    go_wp2_with fail
    rw [← HM3.out]
    refine (right_anyB B b' _ M3 HX3.out.bl (HB.out M3 hbM3) HSm.out.1 HSm.out.2.1 HSm.out.2.2.1 HSm.out.2.2.2).mono ?_
    rintro e w4 ⟨rfl, hb4⟩
    have hbw4 := nx hbM3 hb4
    have HX4 := Lib.hid (HX3.out.stays hb4)
    clear r0 z0 z0'
    have r0 := HX4.out.row
    have z0 := HX4.out.lt
    obtain ⟨rb, hrb⟩ : ∃ rb, rightB b' = rb := ⟨_, rfl⟩
    rw [hrb]
    go_wp2_with fail
    refine (rRightB_any B b' _ w4 HX4.out.bl (HB.out w4 hbw4) (Nat.le_trans HSm.out.1 (by decide)) (Nat.le_trans HSm.out.2.1 (by decide)) (Nat.le_trans HSm.out.2.2.1 (by decide)) (Nat.le_trans HSm.out.2.2.2 (by decide))).mono ?_
    rintro e w5 ⟨rfl, hb5⟩
    rw [hrb]
    have hbw5 := nx hbw4 hb5
    clear r0 z0 hb4 hb5
    cases rb
    · obtain rfl : er = 1 := by rw [← HEr.out]; unfold place; rw [hrb]; rfl
      obtain rfl : ec = 1 := by rw [← HEc.out]; unfold cancel; rw [hrb]; rfl
      clear hrb
      go_wp2_with fail
      refine (awake_any w5).mono ?_
      rintro e w6 ⟨rfl, hb6⟩
      go_wp2
      go_ret
      exact ⟨rfl, nx hbw5 hb6⟩
    · clear hrb
      go_wp2_with fail
      refine (awake_any w5).mono ?_
      rintro e w6 ⟨rfl, hb6⟩
      go_wp2
      go_ret
      exact ⟨rfl, nx hbw5 hb6⟩
set_option maxRecDepth 8000 in
set_option maxHeartbeats 1000000 in
theorem walkTurns (ops : List Op5) (v : Value) (which by_ : Int) (w : World) (h : PL (Bs.of w.heap.size) ops v w) (_hw : wfPs ops) (_h1 : wfI which) (_h2 : wfI by_) :
    Calls Try.prog 4 #[v, .int .i64 which, .int .i64 by_] w fun e w' => e = .returned (.bool true) ∧ Below w.heap.size w w' := by
  by_cases h80 : ops.length ≤ 80
  · exact walkTurns1 ops v which by_ w h h80
  · have HPl := Lib.hid (played_long (Bs.of w.heap.size) ops v w h h80)
    clear h h80
    go_enter Try.func4, Try.ntmps4
    go_wp2_with fail
    refine HPl.out.mono ?_
    rintro e w1 ⟨rfl, hb1⟩
    go_wp2_with fail
    refine (awake_any _).mono ?_
    rintro e w2 ⟨rfl, hb2⟩
    go_wp2
    go_ret
    exact ⟨rfl, nx (nx hb1 (below1 _ _)) hb2⟩
end Go.Proofs.Ytfnmmknbjfmagaa.Bk
