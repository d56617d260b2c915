/- BookRight: walked. -/
import Derived.Test.YtfnmmknbjfmagaaBlE
import Derived.Test.YtfnmmknbjfmagaaBlFo
namespace Go.Proofs.Ytfnmmknbjfmagaa.Bk
open Go.RowKit
set_option linter.unusedVariables false
open Go.Proofs.Ytfnmmknbjfmagaa.Rw
open Go.Proofs.Ytfnmmknbjfmagaa.Da
open Go.Proofs.Ytfnmmknbjfmagaa.Le
theorem best_mem {l : List Lv} (h : 0 < bestP l) : ∃ o ∈ flat l, opr o = bestP l := by
  unfold bestP at h ⊢
  cases e : (flat l).head? with
  | none => rw [e] at h; exact absurd h (by decide)
  | some o => exact ⟨o, List.mem_of_mem_head? e, rfl⟩
theorem top_apart {b : Bk} (h : RightB b) (h1 : 0 < bestP b.1) (h2 : 0 < bestP b.2.1) : bestP b.1 < bestP b.2.1 := by
  obtain ⟨o, ho, e1⟩ := best_mem h1
  obtain ⟨x, hx, e2⟩ := best_mem h2
  have := h.cross o ho x hx
  omega
set_option maxRecDepth 8000 in
set_option maxHeartbeats 8000000 in
theorem walkRight1 (ops : List Op5) (v : Value) (w : World) (h : PL (Bs.of w.heap.size) ops v w) (h80 : ops.length ≤ 80) :
    Calls Try.prog 5 #[v] w fun e w' => e = .returned (.bool true) ∧ Below w.heap.size w w' := by
  obtain ⟨a0, c0, rfl, hel⟩ := h
  obtain ⟨B, hB'⟩ : ∃ B, B = Bs.of w.heap.size := ⟨_, rfl⟩
  have hB : B.le w.heap.size := by rw [hB']; exact Bs.of_le _
  obtain ⟨N, hn⟩ : ∃ N, N = ops.length := ⟨_, rfl⟩
  rw [← hn] at h80 ⊢
  have HE := Lib.hid hel
  have HN := Lib.hid hn
  have hd : decide ((80 : Int) < N) = false := decide_eq_false (by omega)
  have hd' : decide (80 < N) = false := decide_eq_false (by omega)
  have HB := Lib.hid (show ∀ u, Below w.heap.size w u → B.le u.heap.size from fun u hu => hB.mono hu.size)
  clear hel hn hB hB'
  go_enter Try.func5, Try.ntmps5
  go_wp2_with fail
  refine (new_any w).mono ?_
  rintro e w1 ⟨rfl, hb1⟩
  obtain ⟨p, hp⟩ : ∃ p, p = w1.heap.size := ⟨_, rfl⟩
  obtain ⟨M, hM⟩ : ∃ M, M = w1.alloc (.cells #[.slice none 0 0, .slice none 0 0, .int .i64 1] 26) := ⟨_, rfl⟩
  have hbM := nx hb1 (hM ▸ below1 w1 _)
  have hx0 : Bx B bk0 p #[.slice none 0 0, .slice none 0 0, .int .i64 1] M := by rw [hM, hp]; exact Bx.made (bl_new w1) (HB.out w1 hb1).1
  have hpw : w.heap.size ≤ p := by rw [hp]; exact hb1.size
  have HM := Lib.hid hM
  have HX := Lib.hid hx0
  have HP := Lib.hid hp
  clear hM hx0 hp
  go_wp2
  rw [← HM.out, ← HP.out]
  go_loopw [17] (fun i wr => ∃ k : Nat, k ≤ N ∧ i = .int .i64 k ∧ Below w.heap.size w wr ∧ ∃ b a1 n1 c1 a2 n2 c2 n, RightB b ∧ Bx B b p #[.slice a1 n1 c1, .slice a2 n2 c2, .int .i64 n] wr) (fun i _ => N - (intOf i).toNat)
  case atStart => exact ⟨0, Nat.zero_le _, rfl, hbM, bk0, none, 0, 0, none, 0, 0, 1, right_new, HX.out⟩
  case round =>
    obtain ⟨k, hk, rfl, hb, b, a1, n1, c1, a2, n2, c2, n, hR, hbx⟩ := hrel
    have HR := Lib.hid hR
    have HX := Lib.hid hbx
    have r0 := hbx.row
    have z0 := hbx.lt
    clear hbx hR
    by_cases hlt : k < N
    · have hlt2 : (k : Int) < N := by omega
      have hko : k < ops.length := by rw [← HN.out]; exact hlt
      rcases HE.out with ⟨e, _⟩ | ⟨bo, off, rfl, hat⟩
      · rw [e] at hko; cases hko
      obtain ⟨q0, q1, q2, q3, q4⟩ := atP (Lies.keep eP 29 hat (Keeps.of_below hb)) k hko
      have hbb : bo < wr.heap.size := Nat.lt_of_lt_of_le hat.1 hb.size
      obtain ⟨⟨o1, o2, o3, o4, o5⟩, ho⟩ : ∃ x, ops[k]'hko = x := ⟨_, rfl⟩
      rw [ho] at q0 q1 q2 q3 q4
      simp only at q0 q1 q2 q3 q4
      obtain ⟨V, hV⟩ : ∃ V, V = (wr.alloc (.cells #[.int .i64 o1, .int .i64 o2, .int .i64 o3, .int .i64 o4, .int .i64 o5] 29)).alloc (.cells #[.slice a1 n1 c1, .slice a2 n2 c2, .int .i64 n] 26) := ⟨_, rfl⟩
      have hbV : Below wr.heap.size wr V := hV ▸ below2 wr _ _
      have hxr : Bx B b (wr.heap.size + 1) #[.slice a1 n1 c1, .slice a2 n2 c2, .int .i64 n] V := by
        have hbo := below1 wr (.cells #[.int .i64 o1, .int .i64 o2, .int .i64 o3, .int .i64 o4, .int .i64 o5] 29)
        have := Bx.made (HX.out.stays hbo).bl (HB.out _ (nx hb hbo)).1
        rw [World.size_alloc] at this
        rw [hV]; exact this
      have HV := Lib.hid hV
      have hbVw := nx hb hbV
      have HXV := Lib.hid (HX.out.stays hbV)
      have HXR := Lib.hid hxr
      have z0' : p < wr.heap.size + 1 := by omega
      clear ho hat hV hxr
      by_cases hk2 : o1 = 2
      · have hd2 : (o1 == 2) = true := by simpa using hk2
        obtain ⟨C, hC⟩ : ∃ C, cancel b o2 o4 = C := ⟨_, rfl⟩
        have hRC : RightB C.1 := by rw [← hC]; exact cancel_right HR.out
        have hEq : C.2.2 ≠ 0 → C.1 = b := by
          rw [← hC]
          rcases cancel_cases (ow := o2) (id := o4) HR.out with ⟨_, h⟩ | ⟨o, _, _, h⟩ | ⟨o, _, _, _, h, _⟩ <;> rw [h]
          · exact fun _ => rfl
          · exact fun _ => rfl
          · exact fun h => absurd rfl h
        have HC := Lib.hid hC
        have HRC := Lib.hid hRC
        have HEq := Lib.hid hEq
        clear hk2 hC hRC hEq
        go_wp2_with fail
        rw [← HV.out]
        refine (cancel_is HC (small_right HR.out) B _ V HXV.out.bl (HB.out V hbVw)).mono ?_
        rintro e w2 ⟨a3, n3, c3, a4, n4, c4, m, rfl, -, hd9, hbl⟩
        obtain ⟨qq, hqq⟩ : ∃ qq, C.2.1 = qq := ⟨_, rfl⟩
        have hcs := cO_size qq
        have h1c : oneAll (.agg (cO qq)) = true := by cases qq <;> exact one5 _ _ _ _ _
        obtain ⟨er, her⟩ : ∃ er, C.2.2 = er := ⟨_, rfl⟩
        rw [hqq, her]
        rw [her] at HEq
        clear hqq her
        have hx2 := HXV.out.stays hd9
        have hy2 := HXR.out.stays hd9
        have hb2 := nx hbVw hd9
        have p0 := hy2.plain
        have z2 := hy2.lt
        have hzr : wr.heap.size ≤ wr.heap.size + 1 := Nat.le_succ _
        obtain ⟨W, hW⟩ : ∃ W, W = w2.setRow (wr.heap.size + 1) #[.slice a3 n3 c3, .slice a4 n4 c4, .int .i64 m] := ⟨_, rfl⟩
        have hxW : Bx B C.1 (wr.heap.size + 1) #[.slice a3 n3 c3, .slice a4 n4 c4, .int .i64 m] W := by rw [hW]; exact hy2.set hbl
        have hyW : Bx B b p #[.slice a1 n1 c1, .slice a2 n2 c2, .int .i64 n] W := by rw [hW]; exact hx2.other hy2 (by omega) _
        have hbW : Below w.heap.size w W := by rw [hW]; exact below_setRow hb2 (by have := hb.size; omega) _
        have rW := hxW.row
        rw [hW] at rW
        have HXW := Lib.hid hxW
        have HYW := Lib.hid hyW
        have HW := Lib.hid hW
        clear hW hxW hyW hx2 hy2 hbl hd9 hb2 hb HX HXV HXR hbV hbVw
        go_wp2_with fail
        rw [← HW.out]
        refine (top_any B C.1 _ W HXW.out.bl (Nat.le_trans (right_small HRC.out).1 (by decide)) (Nat.le_trans (right_small HRC.out).2.1 (by decide)) (Nat.le_trans (right_small HRC.out).2.2.1 (by decide)) (Nat.le_trans (right_small HRC.out).2.2.2 (by decide))).mono ?_
        rintro e w3 ⟨rfl, hb3⟩
        obtain ⟨xx, hxx⟩ : ∃ xx, bestP C.1.1 = xx := ⟨_, rfl⟩
        obtain ⟨yy, hyy⟩ : ∃ yy, bestP C.1.2.1 = yy := ⟨_, rfl⟩
        have HTop := Lib.hid (top_apart HRC.out)
        rw [hxx, hyy] at HTop ⊢
        clear rW p0 z2 r0 z0 z0' hxx hyy
        have hbw3 := nx hbW hb3
        have hx3 := HXW.out.stays hb3
        have hy3 := HYW.out.stays hb3
        have r1 := hx3.row
        have z1 := hx3.lt
        have r2 := hy3.row
        have z2 := hy3.lt
        have HX3 := Lib.hid hx3
        have HY3 := Lib.hid hy3
        clear hx3 hy3
        by_cases her : er = 0
        · have hde : (er != 0) = false := by simpa using her
          clear her
          go_wp2_with fail
          refine (right_anyB B C.1 _ w3 HX3.out.bl (HB.out w3 hbw3) (small_right HRC.out).1 (small_right HRC.out).2.1 (small_right HRC.out).2.2.1 (small_right HRC.out).2.2.2).mono ?_
          rintro e w5 ⟨rfl, hb5⟩
          rw [rightB_iff.2 HRC.out]
          have hbw5 := nx hbw3 hb5
          have HX5 := Lib.hid (HX3.out.stays hb5)
          have HY5 := Lib.hid (HY3.out.stays hb5)
          clear r1 z1
          have r1 := HX5.out.row
          have z1 := HX5.out.lt
          have p1 := HY5.out.plain
          have z3 := HY5.out.lt
          have HRl := Lib.hid (show Below w.heap.size w (w5.setRow p #[.slice a3 n3 c3, .slice a4 n4 c4, .int .i64 m]) ∧ Bx B C.1 p #[.slice a3 n3 c3, .slice a4 n4 c4, .int .i64 m] (w5.setRow p #[.slice a3 n3 c3, .slice a4 n4 c4, .int .i64 m]) from ⟨below_setRow hbw5 hpw _, HY5.out.set HX5.out.bl⟩)
          by_cases g1 : 0 < xx
          · by_cases g2 : 0 < yy
            · have g3 : ¬ yy ≤ xx := by have := HTop.out g1 g2; omega
              have f1 : decide (0 < xx) = true := by simpa using g1
              have f2 : decide (0 < yy) = true := by simpa using g2
              have f3 : decide (yy ≤ xx) = false := by simpa using g3
              go_wp2
              go_roundw
              case rel => exact ⟨k + 1, by omega, by go_num, HRl.out.1, _, _, _, _, _, _, _, _, HRC.out, HRl.out.2⟩
              case measure => simp [intOf]; omega
            · have f1 : decide (0 < xx) = true := by simpa using g1
              have f2 : decide (0 < yy) = false := by simpa using g2
              go_wp2
              go_roundw
              case rel => exact ⟨k + 1, by omega, by go_num, HRl.out.1, _, _, _, _, _, _, _, _, HRC.out, HRl.out.2⟩
              case measure => simp [intOf]; omega
          · have f1 : decide (0 < xx) = false := by simpa using g1
            go_wp2
            go_roundw
            case rel => exact ⟨k + 1, by omega, by go_num, HRl.out.1, _, _, _, _, _, _, _, _, HRC.out, HRl.out.2⟩
            case measure => simp [intOf]; omega
        · have hde : (er != 0) = true := by simpa using her
          have hsm : Hid (sameB C.1 b = true) := Lib.hid (sameB_yes (HEq.out her))
          clear her
          go_wp2_with fail
          refine (sameBk_is hsm B B _ _ w3 HX3.out.bl HY3.out.bl (small_right HRC.out).1 (small_right HRC.out).2.1 (small_right HRC.out).2.2.1 (small_right HRC.out).2.2.2).mono ?_
          rintro e w4 ⟨rfl, hb4⟩
          have hbw4 := nx hbw3 hb4
          have HX4 := Lib.hid (HX3.out.stays hb4)
          have HY4 := Lib.hid (HY3.out.stays hb4)
          clear r1 z1 r2 z2
          have r1 := HX4.out.row
          have z1 := HX4.out.lt
          go_wp2_with fail
          refine (right_anyB B C.1 _ w4 HX4.out.bl (HB.out w4 hbw4) (small_right HRC.out).1 (small_right HRC.out).2.1 (small_right HRC.out).2.2.1 (small_right HRC.out).2.2.2).mono ?_
          rintro e w5 ⟨rfl, hb5⟩
          rw [rightB_iff.2 HRC.out]
          have hbw5 := nx hbw4 hb5
          have HX5 := Lib.hid (HX4.out.stays hb5)
          have HY5 := Lib.hid (HY4.out.stays hb5)
          clear r1 z1
          have r1 := HX5.out.row
          have z1 := HX5.out.lt
          have p1 := HY5.out.plain
          have z3 := HY5.out.lt
          have HRl := Lib.hid (show Below w.heap.size w (w5.setRow p #[.slice a3 n3 c3, .slice a4 n4 c4, .int .i64 m]) ∧ Bx B C.1 p #[.slice a3 n3 c3, .slice a4 n4 c4, .int .i64 m] (w5.setRow p #[.slice a3 n3 c3, .slice a4 n4 c4, .int .i64 m]) from ⟨below_setRow hbw5 hpw _, HY5.out.set HX5.out.bl⟩)
          by_cases g1 : 0 < xx
          · by_cases g2 : 0 < yy
            · have g3 : ¬ yy ≤ xx := by have := HTop.out g1 g2; omega
              have f1 : decide (0 < xx) = true := by simpa using g1
              have f2 : decide (0 < yy) = true := by simpa using g2
              have f3 : decide (yy ≤ xx) = false := by simpa using g3
              go_wp2
              go_roundw
              case rel => exact ⟨k + 1, by omega, by go_num, HRl.out.1, _, _, _, _, _, _, _, _, HRC.out, HRl.out.2⟩
              case measure => simp [intOf]; omega
            · have f1 : decide (0 < xx) = true := by simpa using g1
              have f2 : decide (0 < yy) = false := by simpa using g2
              go_wp2
              go_roundw
              case rel => exact ⟨k + 1, by omega, by go_num, HRl.out.1, _, _, _, _, _, _, _, _, HRC.out, HRl.out.2⟩
              case measure => simp [intOf]; omega
          · have f1 : decide (0 < xx) = false := by simpa using g1
            go_wp2
            go_roundw
            case rel => exact ⟨k + 1, by omega, by go_num, HRl.out.1, _, _, _, _, _, _, _, _, HRC.out, HRl.out.2⟩
            case measure => simp [intOf]; omega
      · have hd2 : (o1 == 2) = false := by simpa using hk2
        obtain ⟨rs, hrs⟩ : ∃ rs, (o1 != 1) = rs := ⟨_, rfl⟩
        obtain ⟨C, hC⟩ : ∃ C, place b o2 o3 o4 o5 rs = C := ⟨_, rfl⟩
        have hRC : RightB C.1 := by rw [← hC]; exact place_right HR.out
        have hEq : C.2.2.2.2 ≠ 0 → C.1 = b := by
          rw [← hC]
          rcases place_cases (ow := o2) (s := o3) (p := o4) (q := o5) (rest := rs) HR.out with ⟨e, _, h⟩ | ⟨_, _, _, _, h, _⟩ <;> rw [h]
          · exact fun _ => rfl
          · exact fun h => absurd rfl h
        have HC := Lib.hid hC
        have HRC := Lib.hid hRC
        have HEq := Lib.hid hEq
        clear hk2 hC hRC hEq
        go_wp2_with fail
        rw [← HV.out]
        refine (place_is HC (small_right HR.out) B _ V HXV.out.bl (HB.out V hbVw)).mono ?_
        rintro e w2 ⟨a3, n3, c3, a4, n4, c4, m, fa, fn, fc, rfl, -, -, hd9, hbl, -⟩
        obtain ⟨er, her⟩ : ∃ er, C.2.2.2.2 = er := ⟨_, rfl⟩
        rw [her]
        rw [her] at HEq
        clear her
        have hx2 := HXV.out.stays hd9
        have hy2 := HXR.out.stays hd9
        have hb2 := nx hbVw hd9
        have p0 := hy2.plain
        have z2 := hy2.lt
        have hzr : wr.heap.size ≤ wr.heap.size + 1 := Nat.le_succ _
        obtain ⟨W, hW⟩ : ∃ W, W = w2.setRow (wr.heap.size + 1) #[.slice a3 n3 c3, .slice a4 n4 c4, .int .i64 m] := ⟨_, rfl⟩
        have hxW : Bx B C.1 (wr.heap.size + 1) #[.slice a3 n3 c3, .slice a4 n4 c4, .int .i64 m] W := by rw [hW]; exact hy2.set hbl
        have hyW : Bx B b p #[.slice a1 n1 c1, .slice a2 n2 c2, .int .i64 n] W := by rw [hW]; exact hx2.other hy2 (by omega) _
        have hbW : Below w.heap.size w W := by rw [hW]; exact below_setRow hb2 (by have := hb.size; omega) _
        have rW := hxW.row
        rw [hW] at rW
        have HXW := Lib.hid hxW
        have HYW := Lib.hid hyW
        have HW := Lib.hid hW
        clear hW hxW hyW hx2 hy2 hbl hd9 hb2 hb HX HXV HXR hbV hbVw
        go_wp2_with fail
        rw [← HW.out]
        refine (top_any B C.1 _ W HXW.out.bl (Nat.le_trans (right_small HRC.out).1 (by decide)) (Nat.le_trans (right_small HRC.out).2.1 (by decide)) (Nat.le_trans (right_small HRC.out).2.2.1 (by decide)) (Nat.le_trans (right_small HRC.out).2.2.2 (by decide))).mono ?_
        rintro e w3 ⟨rfl, hb3⟩
        obtain ⟨xx, hxx⟩ : ∃ xx, bestP C.1.1 = xx := ⟨_, rfl⟩
        obtain ⟨yy, hyy⟩ : ∃ yy, bestP C.1.2.1 = yy := ⟨_, rfl⟩
        have HTop := Lib.hid (top_apart HRC.out)
        rw [hxx, hyy] at HTop ⊢
        clear rW p0 z2 r0 z0 z0' hxx hyy
        have hbw3 := nx hbW hb3
        have hx3 := HXW.out.stays hb3
        have hy3 := HYW.out.stays hb3
        have r1 := hx3.row
        have z1 := hx3.lt
        have r2 := hy3.row
        have z2 := hy3.lt
        have HX3 := Lib.hid hx3
        have HY3 := Lib.hid hy3
        clear hx3 hy3
        by_cases her : er = 0
        · have hde : (er != 0) = false := by simpa using her
          clear her
          go_wp2_with fail
          refine (right_anyB B C.1 _ w3 HX3.out.bl (HB.out w3 hbw3) (small_right HRC.out).1 (small_right HRC.out).2.1 (small_right HRC.out).2.2.1 (small_right HRC.out).2.2.2).mono ?_
          rintro e w5 ⟨rfl, hb5⟩
          rw [rightB_iff.2 HRC.out]
          have hbw5 := nx hbw3 hb5
          have HX5 := Lib.hid (HX3.out.stays hb5)
          have HY5 := Lib.hid (HY3.out.stays hb5)
          clear r1 z1
          have r1 := HX5.out.row
          have z1 := HX5.out.lt
          have p1 := HY5.out.plain
          have z3 := HY5.out.lt
          have HRl := Lib.hid (show Below w.heap.size w (w5.setRow p #[.slice a3 n3 c3, .slice a4 n4 c4, .int .i64 m]) ∧ Bx B C.1 p #[.slice a3 n3 c3, .slice a4 n4 c4, .int .i64 m] (w5.setRow p #[.slice a3 n3 c3, .slice a4 n4 c4, .int .i64 m]) from ⟨below_setRow hbw5 hpw _, HY5.out.set HX5.out.bl⟩)
          by_cases g1 : 0 < xx
          · by_cases g2 : 0 < yy
            · have g3 : ¬ yy ≤ xx := by have := HTop.out g1 g2; omega
              have f1 : decide (0 < xx) = true := by simpa using g1
              have f2 : decide (0 < yy) = true := by simpa using g2
              have f3 : decide (yy ≤ xx) = false := by simpa using g3
              go_wp2
              go_roundw
              case rel => exact ⟨k + 1, by omega, by go_num, HRl.out.1, _, _, _, _, _, _, _, _, HRC.out, HRl.out.2⟩
              case measure => simp [intOf]; omega
            · have f1 : decide (0 < xx) = true := by simpa using g1
              have f2 : decide (0 < yy) = false := by simpa using g2
              go_wp2
              go_roundw
              case rel => exact ⟨k + 1, by omega, by go_num, HRl.out.1, _, _, _, _, _, _, _, _, HRC.out, HRl.out.2⟩
              case measure => simp [intOf]; omega
          · have f1 : decide (0 < xx) = false := by simpa using g1
            go_wp2
            go_roundw
            case rel => exact ⟨k + 1, by omega, by go_num, HRl.out.1, _, _, _, _, _, _, _, _, HRC.out, HRl.out.2⟩
            case measure => simp [intOf]; omega
        · have hde : (er != 0) = true := by simpa using her
          have hsm : Hid (sameB C.1 b = true) := Lib.hid (sameB_yes (HEq.out her))
          clear her
          go_wp2_with fail
          refine (sameBk_is hsm B B _ _ w3 HX3.out.bl HY3.out.bl (small_right HRC.out).1 (small_right HRC.out).2.1 (small_right HRC.out).2.2.1 (small_right HRC.out).2.2.2).mono ?_
          rintro e w4 ⟨rfl, hb4⟩
          have hbw4 := nx hbw3 hb4
          have HX4 := Lib.hid (HX3.out.stays hb4)
          have HY4 := Lib.hid (HY3.out.stays hb4)
          clear r1 z1 r2 z2
          have r1 := HX4.out.row
          have z1 := HX4.out.lt
          go_wp2_with fail
          refine (right_anyB B C.1 _ w4 HX4.out.bl (HB.out w4 hbw4) (small_right HRC.out).1 (small_right HRC.out).2.1 (small_right HRC.out).2.2.1 (small_right HRC.out).2.2.2).mono ?_
          rintro e w5 ⟨rfl, hb5⟩
          rw [rightB_iff.2 HRC.out]
          have hbw5 := nx hbw4 hb5
          have HX5 := Lib.hid (HX4.out.stays hb5)
          have HY5 := Lib.hid (HY4.out.stays hb5)
          clear r1 z1
          have r1 := HX5.out.row
          have z1 := HX5.out.lt
          have p1 := HY5.out.plain
          have z3 := HY5.out.lt
          have HRl := Lib.hid (show Below w.heap.size w (w5.setRow p #[.slice a3 n3 c3, .slice a4 n4 c4, .int .i64 m]) ∧ Bx B C.1 p #[.slice a3 n3 c3, .slice a4 n4 c4, .int .i64 m] (w5.setRow p #[.slice a3 n3 c3, .slice a4 n4 c4, .int .i64 m]) from ⟨below_setRow hbw5 hpw _, HY5.out.set HX5.out.bl⟩)
          by_cases g1 : 0 < xx
          · by_cases g2 : 0 < yy
            · have g3 : ¬ yy ≤ xx := by have := HTop.out g1 g2; omega
              have f1 : decide (0 < xx) = true := by simpa using g1
              have f2 : decide (0 < yy) = true := by simpa using g2
              have f3 : decide (yy ≤ xx) = false := by simpa using g3
              go_wp2
              go_roundw
              case rel => exact ⟨k + 1, by omega, by go_num, HRl.out.1, _, _, _, _, _, _, _, _, HRC.out, HRl.out.2⟩
              case measure => simp [intOf]; omega
            · have f1 : decide (0 < xx) = true := by simpa using g1
              have f2 : decide (0 < yy) = false := by simpa using g2
              go_wp2
              go_roundw
              case rel => exact ⟨k + 1, by omega, by go_num, HRl.out.1, _, _, _, _, _, _, _, _, HRC.out, HRl.out.2⟩
              case measure => simp [intOf]; omega
          · have f1 : decide (0 < xx) = false := by simpa using g1
            go_wp2
            go_roundw
            case rel => exact ⟨k + 1, by omega, by go_num, HRl.out.1, _, _, _, _, _, _, _, _, HRC.out, HRl.out.2⟩
            case measure => simp [intOf]; omega
    · obtain rfl : k = N := by omega
      go_wp2_with fail
      refine (awake_any wr).mono ?_
      rintro e w2 ⟨rfl, hb2⟩
      go_wp2
      go_ret
      exact ⟨rfl, nx hb hb2⟩
theorem walkRight (ops : List Op5) (v : Value) (w : World) (h : PL (Bs.of w.heap.size) ops v w) (_hw : wfPs ops) :
    Calls Try.prog 5 #[v] w fun e w' => e = .returned (.bool true) ∧ Below w.heap.size w w' := by
  by_cases h80 : ops.length ≤ 80
  · exact walkRight1 ops v w h h80
  · obtain ⟨a0, c0, rfl, hel⟩ := h
    obtain ⟨N, hn⟩ : ∃ N, N = ops.length := ⟨_, rfl⟩
    rw [← hn] at h80 ⊢
    have hd : decide ((80 : Int) < N) = true := decide_eq_true (by omega)
    have hd' : decide (80 < N) = true := decide_eq_true (by omega)
    clear hel hn
    go_enter Try.func5, Try.ntmps5
    go_wp2_with fail
    refine (awake_any w).mono ?_
    rintro e w2 ⟨rfl, hb2⟩
    go_wp2
    go_ret
    exact ⟨rfl, hb2⟩
end Go.Proofs.Ytfnmmknbjfmagaa.Bk
