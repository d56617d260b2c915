/- BookPlays: walked. -/
import Derived.Test.YtfnmmknbjfmagaaBlFo
import Derived.RegionTactic
namespace Go.Proofs.Ytfnmmknbjfmagaa.Bk
open Go.RowKit
set_option linter.unusedVariables false
open Go.Proofs.Ytfnmmknbjfmagaa.Rw
open Go.Proofs.Ytfnmmknbjfmagaa.Da
open Go.Proofs.Ytfnmmknbjfmagaa.Le
theorem neqC (r : Option Od) (w : World) : (binOp .neq 31 (.agg (cO r)) (.agg (cO r))).run Try.prog w = .ok (.bool false) w := by
  cases r
  · exact (neqO _ _ _ _ _ _ _ _ _ _ w).trans (by simp [eqO])
  · exact (neqO _ _ _ _ _ _ _ _ _ _ w).trans (by simp [eqO])
theorem guardC' (op : BinOp) (p q : Operand) (r : Option Od) (w : World) : (eqGuard op 31 p q (.agg (cO r)) (.agg (cO r))).run Try.prog w = .ok () w := by
  cases r
  · exact guardO _ _ _ _ _ _ _ _ _ _ _ _ _ w
  · exact guardO _ _ _ _ _ _ _ _ _ _ _ _ _ w
attribute [go_sem ↓] neqC guardC'
/-- Two boxes are filled from two others, in whatever order. -/
structure Two (B : Bs) (C : Bk) (p x y : Nat) (c3 c4 : Array Value) (w W : World) : Prop where
  rx : row W x = c3
  ry : row W y = c4
  rx2 : row (W.setRow (p + 1) c4) x = c3
  ry2 : row (W.setRow p c3) y = c4
  p1 : plain 3 W p = true
  p2 : plain 3 W (p + 1) = true
  p3 : plain 3 (W.setRow p c3) (p + 1) = true
  p4 : plain 3 (W.setRow (p + 1) c4) p = true
  com : (W.setRow (p + 1) c4).setRow p c3 = (W.setRow p c3).setRow (p + 1) c4
  b1 : Bx B C p c3 ((W.setRow p c3).setRow (p + 1) c4)
  b2 : Bx B C (p + 1) c4 ((W.setRow p c3).setRow (p + 1) c4)
  bel : Below w.heap.size w ((W.setRow p c3).setRow (p + 1) c4)
theorem two {B : Bs} {b C : Bk} {p x y : Nat} {d1 d2 d3 e1 e2 e3 : Value} {c3 c4 : Array Value} {w W : World} (hp : Bx B b p #[d1, d2, d3] W) (hq : Bx B b (p + 1) #[e1, e2, e3] W) (hx : Bx B C x c3 W) (hy : Bx B C y c4 W) (h1 : p + 1 < x) (h2 : p + 1 < y) (hb : Below w.heap.size w W) (hw : w.heap.size ≤ p) : Two B C p x y c3 c4 w W := by
  have kp := hx.other hp (by omega) c3
  have kq := hx.other hq (by omega) c4
  have ly := hy.other hp (by omega) c3
  have q1 := hq.other hp (by omega) c3
  have p1 := hp.other hq (by omega) c4
  have s1 := hp.set hx.bl
  have t1 := (hq.other hp (by omega) c3).set ly.bl
  refine ⟨hx.row, hy.row, kq.row, ly.row, hp.plain, hq.plain, q1.plain, p1.plain, setRow_comm W _ _ (by omega), ?_, t1, below_setRow (below_setRow hb hw _) (by omega) _⟩
  exact s1.other q1 (by omega) c4
set_option maxRecDepth 8000 in
set_option maxHeartbeats 8000000 in
theorem walkPlays1 (ops : List Op5) (v : Value) (w : World) (h : PL (Bs.of w.heap.size) ops v w) (h80 : ops.length ≤ 80) :
    Calls Try.prog 3 #[v] w fun e w' => e = .returned (.bool true) ∧ Below w.heap.size w w' := by
  obtain ⟨a0, c0, rfl, hel⟩ := h
  obtain ⟨B, hB'⟩ : ∃ B, B = Bs.of w.heap.size := ⟨_, rfl⟩
  have hB : B.le w.heap.size := by rw [hB']; exact Bs.of_le _
  obtain ⟨N, hn⟩ : ∃ N, N = ops.length := ⟨_, rfl⟩
  rw [← hn] at h80 ⊢
  have HE := Lib.hid hel
  have HN := Lib.hid hn
  have hd : decide ((80 : Int) < N) = false := decide_eq_false (by omega)
  have hd' : decide (80 < N) = false := decide_eq_false (by omega)
  have HB := Lib.hid (show ∀ u, Below w.heap.size w u → B.le u.heap.size from fun u hu => hB.mono hu.size)
  clear hel hn hB hB'
  go_enter Try.func3, Try.ntmps3
  go_wp2_with fail
  refine (new_any w).mono ?_
  rintro e w0 ⟨rfl, hb0⟩
  go_wp2_with fail
  refine (rNew_any w0).mono ?_
  rintro e w1 ⟨rfl, hb0'⟩
  have hb1 := nx hb0 hb0'
  obtain ⟨p, hp⟩ : ∃ p, p = w1.heap.size := ⟨_, rfl⟩
  obtain ⟨M, hM⟩ : ∃ M, M = (w1.alloc (.cells #[.slice none 0 0, .slice none 0 0, .int .i64 1] 26)).alloc (.cells #[.slice none 0 0, .slice none 0 0, .int .i64 1] 26) := ⟨_, rfl⟩
  have hbM := nx hb1 (hM ▸ below2 w1 _ _)
  have hx0 : Bx B bk0 p #[.slice none 0 0, .slice none 0 0, .int .i64 1] M := by rw [hM, hp]; exact (Bx.made (bl_new w1) (HB.out w1 hb1).1).stays (below1 _ _)
  have hx1 : Bx B bk0 (p + 1) #[.slice none 0 0, .slice none 0 0, .int .i64 1] M := by
    have := Bx.made (B := B) (bl_new (w1.alloc (.cells #[.slice none 0 0, .slice none 0 0, .int .i64 1] 26))) (HB.out _ (nx hb1 (below1 w1 _))).1
    rw [World.size_alloc] at this
    rw [hM, hp]; exact this
  have hpw : w.heap.size ≤ p := by rw [hp]; exact hb1.size
  have HM := Lib.hid hM
  have HX := Lib.hid hx0
  have HX1 := Lib.hid hx1
  have HP := Lib.hid hp
  clear hM hx0 hx1 hp hb0 hb0' hb1
  go_wp2
  rw [← HM.out, ← HP.out]
  go_loopw [35] (fun i wr => ∃ k : Nat, k ≤ N ∧ i = .int .i64 k ∧ Below w.heap.size w wr ∧ ∃ b a1 n1 c1 a2 n2 c2 n d1 m1 e1 d2 m2 e2 m, RightB b ∧ Bx B b p #[.slice a1 n1 c1, .slice a2 n2 c2, .int .i64 n] wr ∧ Bx B b (p + 1) #[.slice d1 m1 e1, .slice d2 m2 e2, .int .i64 m] wr) (fun i _ => N - (intOf i).toNat)
  case atStart => exact ⟨0, Nat.zero_le _, rfl, hbM, bk0, none, 0, 0, none, 0, 0, 1, none, 0, 0, none, 0, 0, 1, right_new, HX.out, HX1.out⟩
  case round =>
    obtain ⟨k, hk, rfl, hb, b, a1, n1, c1, a2, n2, c2, n, d1, m1, e1, d2, m2, e2, m, hR, hbx, hby⟩ := hrel
    have HR := Lib.hid hR
    have HX := Lib.hid hbx
    have HY := Lib.hid hby
    have r0 := hbx.row
    have z0 := hbx.lt
    have y0 := hby.row
    have z0' := hby.lt
    clear hbx hby hR
    by_cases hlt : k < N
    · have hlt2 : (k : Int) < N := by omega
      have hko : k < ops.length := by rw [← HN.out]; exact hlt
      rcases HE.out with ⟨e, _⟩ | ⟨bo, off, rfl, hat⟩
      · rw [e] at hko; cases hko
      obtain ⟨q0, q1, q2, q3, q4⟩ := atP (Lies.keep eP 29 hat (Keeps.of_below hb)) k hko
      have hbb : bo < wr.heap.size := Nat.lt_of_lt_of_le hat.1 hb.size
      obtain ⟨⟨o1, o2, o3, o4, o5⟩, ho⟩ : ∃ x, ops[k]'hko = x := ⟨_, rfl⟩
      rw [ho] at q0 q1 q2 q3 q4
      simp only at q0 q1 q2 q3 q4
      obtain ⟨V, hV⟩ : ∃ V, V = wr.alloc (.cells #[.int .i64 o1, .int .i64 o2, .int .i64 o3, .int .i64 o4, .int .i64 o5] 29) := ⟨_, rfl⟩
      have hbV : Below wr.heap.size wr V := hV ▸ below1 wr _
      have hzV : V.heap.size = wr.heap.size + 1 := by rw [hV]; simp
      have hop : V.heap[wr.heap.size]? = some (.cells #[.int .i64 o1, .int .i64 o2, .int .i64 o3, .int .i64 o4, .int .i64 o5] 29 (0, 0)) := by rw [hV]; exact heap_alloc_new wr _
      have HOp := Lib.hid (show ∀ u, Below V.heap.size V u → (u.cell? ⟨wr.heap.size, 0, none⟩ = some (.int .i64 o1) ∧ u.cell? ⟨wr.heap.size, 1, none⟩ = some (.int .i64 o2) ∧ u.cell? ⟨wr.heap.size, 2, none⟩ = some (.int .i64 o3) ∧ u.cell? ⟨wr.heap.size, 3, none⟩ = some (.int .i64 o4) ∧ u.cell? ⟨wr.heap.size, 4, none⟩ = some (.int .i64 o5)) ∧ wr.heap.size < u.heap.size ∧ wr.heap.size < u.heap.size + 1 from fun u hu => by
        have g := (hu.block _ (by omega)).trans hop
        have := hu.size
        refine ⟨⟨?_, ?_, ?_, ?_, ?_⟩, by omega, by omega⟩ <;> simp [World.cell?, g])
      have HV := Lib.hid hV
      have hbVw := nx hb hbV
      have HXV := Lib.hid (HX.out.stays hbV)
      have HYV := Lib.hid (HY.out.stays hbV)
      clear ho hat hV hop
      by_cases hk2 : o1 = 2
      · have hd2 : (o1 == 2) = true := by simpa using hk2
        obtain ⟨C, hC⟩ : ∃ C, cancel b o2 o4 = C := ⟨_, rfl⟩
        have hRC : RightB C.1 := by rw [← hC]; exact cancel_right HR.out
        have HC := Lib.hid hC
        have HRC := Lib.hid hRC
        obtain ⟨qq, hqq⟩ : ∃ qq, C.2.1 = qq := ⟨_, rfl⟩
        have hcs := cO_size qq
        have h1c : oneAll (.agg (cO qq)) = true := by cases qq <;> exact one5 _ _ _ _ _
        obtain ⟨er, her⟩ : ∃ er, C.2.2 = er := ⟨_, rfl⟩
        have HQ := Lib.hid (show C.2.1 = qq ∧ C.2.2 = er from ⟨hqq, her⟩)
        clear hk2 hC hRC hqq her
        go_wp2_with fail
        rw [← HV.out]
        refine (cancel_is HC (small_right HR.out) B _ V HXV.out.bl (HB.out V hbVw)).mono ?_
        rintro e w3 ⟨a3, n3, c3, a4, n4, c4, m3, rfl, -, hd9, hbl⟩
        rw [HQ.out.1, HQ.out.2]
        have hz3 := hd9.size
        have hb3w := nx hbVw hd9
        obtain ⟨X, hX⟩ : ∃ X, X = (w3.alloc (.cells #[.slice a3 n3 c3, .slice a4 n4 c4, .int .i64 m3] 26)).alloc (.cells (cO qq) 31) := ⟨_, rfl⟩
        have hbX : Below w3.heap.size w3 X := hX ▸ below2 w3 _ _
        have hzX : X.heap.size = w3.heap.size + 2 := by rw [hX]; simp
        have hxx : Bx B C.1 w3.heap.size #[.slice a3 n3 c3, .slice a4 n4 c4, .int .i64 m3] X := by rw [hX]; exact (Bx.made hbl (HB.out w3 hb3w).1).stays (below1 _ _)
        have hxo : X.heap[w3.heap.size + 1]? = some (.cells (cO qq) 31 (0, 0)) := by
          have := heap_alloc_new (w3.alloc (.cells #[.slice a3 n3 c3, .slice a4 n4 c4, .int .i64 m3] 26)) (.cells (cO qq) 31)
          rw [World.size_alloc] at this
          rw [hX]; exact this
        have hbVX := nx hd9 hbX
        have hbXw := nx hb3w hbX
        have HXX := Lib.hid hxx
        have HXO := Lib.hid hxo
        have HX3 := Lib.hid (HXV.out.stays hbVX)
        have HY3 := Lib.hid (HYV.out.stays hbVX)
        have hy3 := HYV.out.stays hd9
        have HXf := Lib.hid hX
        obtain ⟨⟨_, q1', _, q3', _⟩, zo1, zo2⟩ := HOp.out w3 hd9
        clear r0 z0 y0 z0' q0 q1 q2 q3 q4 hX hxx hxo
        have y0 := hy3.row
        have z0' := hy3.lt
        have z0'' : p + 1 < w3.heap.size + 1 := by omega
        clear hy3 hbl hbV
        go_wp2_with fail
        rw [← HXf.out]
        refine (rCancel_is HC (small_right HR.out) B _ X HY3.out.bl (HB.out X hbXw)).mono ?_
        rintro e w4 ⟨a5, n5, c5, a6, n6, c6, m4, rfl, -, hd8, hbl4⟩
        rw [HQ.out.1, HQ.out.2]
        have hz4 := hd8.size
        have hb4w := nx hbXw hd8
        obtain ⟨Y, hY⟩ : ∃ Y, Y = (w4.alloc (.cells #[.slice a5 n5 c5, .slice a6 n6 c6, .int .i64 m4] 26)).alloc (.cells (cO qq) 31) := ⟨_, rfl⟩
        have hbY : Below w4.heap.size w4 Y := hY ▸ below2 w4 _ _
        have hzY : Y.heap.size = w4.heap.size + 2 := by rw [hY]; simp
        have hyy : Bx B C.1 w4.heap.size #[.slice a5 n5 c5, .slice a6 n6 c6, .int .i64 m4] Y := by rw [hY]; exact (Bx.made hbl4 (HB.out w4 hb4w).1).stays (below1 _ _)
        have hyo : Y.heap[w4.heap.size + 1]? = some (.cells (cO qq) 31 (0, 0)) := by
          have := heap_alloc_new (w4.alloc (.cells #[.slice a5 n5 c5, .slice a6 n6 c6, .int .i64 m4] 26)) (.cells (cO qq) 31)
          rw [World.size_alloc] at this
          rw [hY]; exact this
        have hbXY := nx hd8 hbY
        have hbYw := nx hb4w hbY
        have HYY := Lib.hid hyy
        have HYO := Lib.hid hyo
        have HX4 := Lib.hid (HX3.out.stays hbXY)
        have HY4 := Lib.hid (HY3.out.stays hbXY)
        have HXX4 := Lib.hid (HXX.out.stays hbXY)
        have HXO4 := Lib.hid ((hbXY.block _ (by omega)).trans HXO.out)
        have hxx4 := HXX.out.stays hd8
        have HYf := Lib.hid hY
        clear y0 z0' z0'' q1' q3' zo1 zo2 hY hyy hyo
        have x0 := hxx4.row
        have z0 := hxx4.lt
        have z0' : w3.heap.size < w4.heap.size + 1 := by omega
        clear hxx4 hbl4
        go_wp2_with fail
        rw [← HYf.out]
        refine (sameBk_is (r := true) (Lib.hid (sameB_yes rfl)) B B _ _ Y HXX4.out.bl HYY.out.bl (small_right HRC.out).1 (small_right HRC.out).2.1 (small_right HRC.out).2.2.1 (small_right HRC.out).2.2.2).mono ?_
        rintro e w5 ⟨rfl, hb5⟩
        have hz5 := hb5.size
        clear x0 z0 z0'
        have t1 : row w5 (w3.heap.size + 1) = cO qq := by unfold Rw.row; rw [(hb5.block _ (by omega)).trans HXO4.out]
        have t2 : row w5 (w4.heap.size + 1) = cO qq := by unfold Rw.row; rw [(hb5.block _ (by omega)).trans HYO.out]
        have t3 : w3.heap.size + 1 < w5.heap.size := by omega
        have t4 : w4.heap.size + 1 < w5.heap.size := by omega
        have t5 : w3.heap.size < w5.heap.size := by omega
        have t6 : w4.heap.size < w5.heap.size := by omega
        have hp9 := (HX4.out.stays hb5).lt
        have hq9 := (HY4.out.stays hb5).lt
        have htw := two (w := w) (HX4.out.stays hb5) (HY4.out.stays hb5) (HXX4.out.stays hb5) (HYY.out.stays hb5) (by have := HX.out.lt; have := HY.out.lt; omega) (by have := HX.out.lt; have := HY.out.lt; omega) (nx hbYw hb5) hpw
        have HTw := Lib.hid htw
        obtain ⟨u1, u2, u3, u4, u5, u6, u7, u8, u9, _, _, _⟩ := htw
        clear hb5 hbYw hb4w hbXw hb3w hbVw hb hbXY hbVX hbX hbY hd9 hd8 hbM
        go_wp2
        go_region
        clear u1 u2 u3 u4 u5 u6 u7 u8 u9 t1 t2 t3 t4 t5 t6
        go_wp2
        go_roundw
        case rel => exact ⟨k + 1, by omega, by go_num, HTw.out.bel.drew, C.1, _, _, _, _, _, _, _, _, _, _, _, _, _, _, HRC.out, HTw.out.b1.stays (Below.refl _ _).drew, HTw.out.b2.stays (Below.refl _ _).drew⟩
        case measure => simp [intOf]; omega
      · have hd2 : (o1 == 2) = false := by simpa using hk2
        obtain ⟨rs, hrs⟩ : ∃ rs, (o1 != 1) = rs := ⟨_, rfl⟩
        obtain ⟨C, hC⟩ : ∃ C, place b o2 o3 o4 o5 rs = C := ⟨_, rfl⟩
        have hRC : RightB C.1 := by rw [← hC]; exact place_right HR.out
        have hfl : C.2.1.length ≤ 1000000 := by
          rw [← hC]
          rcases place_cases (ow := o2) (s := o3) (p := o4) (q := o5) (rest := rs) HR.out with ⟨e, _, h⟩ | ⟨fs, _, _, _, h, hs⟩
          · rw [h]; exact Nat.zero_le _
          · rw [h]
            have h1 := hs.tr'.len
            have h2 : (flat (oth b o3)).length ≤ 40 := by
              unfold oth
              split
              · exact (right_small HR.out).2.2.2
              · exact (right_small HR.out).2.1
            show fs.length ≤ 1000000
            omega
        have HC := Lib.hid hC
        have HRC := Lib.hid hRC
        obtain ⟨lf, hlf⟩ : ∃ lf, C.2.2.1 = lf := ⟨_, rfl⟩
        obtain ⟨id, hid⟩ : ∃ id, C.2.2.2.1 = id := ⟨_, rfl⟩
        obtain ⟨er, her⟩ : ∃ er, C.2.2.2.2 = er := ⟨_, rfl⟩
        have HQ := Lib.hid (show C.2.2.1 = lf ∧ C.2.2.2.1 = id ∧ C.2.2.2.2 = er from ⟨hlf, hid, her⟩)
        have HFn := Lib.hid hfl
        clear hk2 hC hRC hlf hid her hfl
        go_wp2_with fail
        rw [← HV.out]
        refine (place_is HC (small_right HR.out) B _ V HXV.out.bl (HB.out V hbVw)).mono ?_
        rintro e w3 ⟨a3, n3, c3, a4, n4, c4, m3, fa, fn, fc, rfl, -, hfn, hd9, hbl, hfl⟩
        rw [HQ.out.1, HQ.out.2.1, HQ.out.2.2]
        have hz3 := hd9.size
        have hb3w := nx hbVw hd9
        obtain ⟨X, hX⟩ : ∃ X, X = w3.alloc (.cells #[.slice a3 n3 c3, .slice a4 n4 c4, .int .i64 m3] 26) := ⟨_, rfl⟩
        have hbX : Below w3.heap.size w3 X := hX ▸ below1 w3 _
        have hzX : X.heap.size = w3.heap.size + 1 := by rw [hX]; simp
        have hxx : Bx B C.1 w3.heap.size #[.slice a3 n3 c3, .slice a4 n4 c4, .int .i64 m3] X := by rw [hX]; exact Bx.made hbl (HB.out w3 hb3w).1
        have hbVX := nx hd9 hbX
        have hbXw := nx hb3w hbX
        have HXX := Lib.hid hxx
        have HFX := Lib.hid (Is.stays eFl 53 hfl hbX)
        have HX3 := Lib.hid (HXV.out.stays hbVX)
        have HY3 := Lib.hid (HYV.out.stays hbVX)
        have hy3 := HYV.out.stays hd9
        have HXf := Lib.hid hX
        have HFn' := Lib.hid hfn
        obtain ⟨⟨q0', q1', q2', q3', q4'⟩, zo1, zo2⟩ := HOp.out w3 hd9
        clear r0 z0 y0 z0' q0 q1 q2 q3 q4 hX hxx hfn
        have y0 := hy3.row
        have z0' := hy3.lt
        clear hy3 hbl hfl hbV
        go_wp2_with fail
        rw [← HXf.out]
        refine (rPlace_is HC (small_right HR.out) B _ X HY3.out.bl (HB.out X hbXw)).mono ?_
        rintro e w4 ⟨a5, n5, c5, a6, n6, c6, m4, ga, gn, gc, rfl, -, hgn, hd8, hbl4, hgl⟩
        rw [HQ.out.1, HQ.out.2.1, HQ.out.2.2]
        have hz4 := hd8.size
        have hb4w := nx hbXw hd8
        obtain ⟨Y, hY⟩ : ∃ Y, Y = w4.alloc (.cells #[.slice a5 n5 c5, .slice a6 n6 c6, .int .i64 m4] 26) := ⟨_, rfl⟩
        have hbY : Below w4.heap.size w4 Y := hY ▸ below1 w4 _
        have hzY : Y.heap.size = w4.heap.size + 1 := by rw [hY]; simp
        have hyy : Bx B C.1 w4.heap.size #[.slice a5 n5 c5, .slice a6 n6 c6, .int .i64 m4] Y := by rw [hY]; exact Bx.made hbl4 (HB.out w4 hb4w).1
        have hbXY := nx hd8 hbY
        have hbYw := nx hb4w hbY
        have HYY := Lib.hid hyy
        have HFY := Lib.hid (Is.stays eFl 53 HFX.out hbXY)
        have HGY := Lib.hid (Is.stays eFl 53 hgl hbY)
        have HX4 := Lib.hid (HX3.out.stays hbXY)
        have HY4 := Lib.hid (HY3.out.stays hbXY)
        have HXX4 := Lib.hid (HXX.out.stays hbXY)
        have hxx4 := HXX.out.stays hd8
        have HYf := Lib.hid hY
        clear y0 z0' q0' q1' q2' q3' q4' zo1 zo2 hY hyy hgn
        have x0 := hxx4.row
        have z0 := hxx4.lt
        clear hxx4 hbl4 hgl
        go_wp2_with fail
        rw [← HYf.out]
        refine (sameBk_is (r := true) (Lib.hid (sameB_yes rfl)) B B _ _ Y HXX4.out.bl HYY.out.bl (small_right HRC.out).1 (small_right HRC.out).2.1 (small_right HRC.out).2.2.1 (small_right HRC.out).2.2.2).mono ?_
        rintro e w5 ⟨rfl, hb5⟩
        have hz5 := hb5.size
        clear x0 z0
        go_wp2_with fail
        refine (fills_is (r := true) (Lib.hid (sameB_yes rfl)) B B _ _ w5 (Is.stays eFl 53 HFY.out hb5) (Is.stays eFl 53 HGY.out hb5) HFn.out).mono ?_
        rintro e w6 ⟨rfl, hb6'⟩
        have hb6 := nx hb5 hb6'
        have hz6 := hb6.size
        have t5 : w3.heap.size < w6.heap.size := by omega
        have t6 : w4.heap.size < w6.heap.size := by omega
        have hp9 := (HX4.out.stays hb6).lt
        have hq9 := (HY4.out.stays hb6).lt
        have htw := two (w := w) (HX4.out.stays hb6) (HY4.out.stays hb6) (HXX4.out.stays hb6) (HYY.out.stays hb6) (by have := HX.out.lt; have := HY.out.lt; omega) (by have := HX.out.lt; have := HY.out.lt; omega) (nx hbYw hb6) hpw
        have HTw := Lib.hid htw
        obtain ⟨u1, u2, u3, u4, u5, u6, u7, u8, u9, _, _, _⟩ := htw
        clear hb5 hb6 hb6' hbYw hb4w hbXw hb3w hbVw hb hbXY hbVX hbX hbY hd9 hd8 hbM
        go_wp2
        go_region
        clear u1 u2 u3 u4 u5 u6 u7 u8 u9
        obtain ⟨Z, hZ⟩ : ∃ Z, Z = ((w6.setRow p #[.slice a3 n3 c3, .slice a4 n4 c4, .int .i64 m3]).setRow (p + 1) #[.slice a5 n5 c5, .slice a6 n6 c6, .int .i64 m4]).drew := ⟨_, rfl⟩
        rw [← hZ]
        have hbZ : Below w.heap.size w Z := hZ ▸ HTw.out.bel.drew
        have hxZ : Bx B C.1 p #[.slice a3 n3 c3, .slice a4 n4 c4, .int .i64 m3] Z := by rw [hZ]; exact HTw.out.b1.stays (Below.refl _ _).drew
        have hyZ : Bx B C.1 (p + 1) #[.slice a5 n5 c5, .slice a6 n6 c6, .int .i64 m4] Z := by rw [hZ]; exact HTw.out.b2.stays (Below.refl _ _).drew
        have r0 := hxZ.row
        have z0 := hxZ.lt
        have HXZ := Lib.hid hxZ
        have HYZ := Lib.hid hyZ
        clear hZ hxZ hyZ hp9 hq9 t5 t6
        go_wp2_with fail
        refine (top_any B C.1 _ Z HXZ.out.bl (Nat.le_trans (right_small HRC.out).1 (by decide)) (Nat.le_trans (right_small HRC.out).2.1 (by decide)) (Nat.le_trans (right_small HRC.out).2.2.1 (by decide)) (Nat.le_trans (right_small HRC.out).2.2.2 (by decide))).mono ?_
        rintro e w7 ⟨rfl, hb7⟩
        obtain ⟨xx, hxx⟩ : ∃ xx, bestP C.1.1 = xx := ⟨_, rfl⟩
        obtain ⟨yy, hyy⟩ : ∃ yy, bestP C.1.2.1 = yy := ⟨_, rfl⟩
        rw [hxx, hyy]
        have HXy := Lib.hid (show bestP C.1.1 = xx ∧ bestP C.1.2.1 = yy from ⟨hxx, hyy⟩)
        have hx7 := HXZ.out.stays hb7
        have hy7 := HYZ.out.stays hb7
        have hb7w := nx hbZ hb7
        clear r0 z0 hxx hyy hbZ
        have y0 := hy7.row
        have z0 := hy7.lt
        have HX7 := Lib.hid hx7
        have HY7 := Lib.hid hy7
        clear hx7 hy7 hb7
        go_wp2_with fail
        refine (rTop_any B C.1 _ w7 HY7.out.bl (Nat.le_trans (right_small HRC.out).1 (by decide)) (Nat.le_trans (right_small HRC.out).2.1 (by decide)) (Nat.le_trans (right_small HRC.out).2.2.1 (by decide)) (Nat.le_trans (right_small HRC.out).2.2.2 (by decide))).mono ?_
        rintro e w8 ⟨rfl, hb8⟩
        rw [HXy.out.1, HXy.out.2]
        clear y0 z0
        go_wp2
        go_roundw
        case rel => exact ⟨k + 1, by omega, by go_num, nx hb7w hb8, C.1, _, _, _, _, _, _, _, _, _, _, _, _, _, _, HRC.out, HX7.out.stays hb8, HY7.out.stays hb8⟩
        case measure => simp [intOf]; omega
    · obtain rfl : k = N := by omega
      go_wp2_with fail
      refine (sameBk_is (r := true) (Lib.hid (sameB_yes rfl)) B B _ _ wr HX.out.bl HY.out.bl (small_right HR.out).1 (small_right HR.out).2.1 (small_right HR.out).2.2.1 (small_right HR.out).2.2.2).mono ?_
      rintro e w2 ⟨rfl, hb2⟩
      clear r0 z0 y0 z0'
      go_wp2_with fail
      refine (awake_any w2).mono ?_
      rintro e w3 ⟨rfl, hb3⟩
      go_wp2
      go_ret
      exact ⟨rfl, nx (nx hb hb2) hb3⟩
set_option maxRecDepth 8000 in
set_option maxHeartbeats 1000000 in
theorem walkPlays (ops : List Op5) (v : Value) (w : World) (h : PL (Bs.of w.heap.size) ops v w) (_hw : wfPs ops) :
    Calls Try.prog 3 #[v] w fun e w' => e = .returned (.bool true) ∧ Below w.heap.size w w' := by
  by_cases h80 : ops.length ≤ 80
  · exact walkPlays1 ops v w h h80
  · obtain ⟨a0, c0, rfl, hel⟩ := h
    obtain ⟨N, hn⟩ : ∃ N, N = ops.length := ⟨_, rfl⟩
    rw [← hn] at h80 ⊢
    have hd : decide ((80 : Int) < N) = true := decide_eq_true (by omega)
    have hd' : decide (80 < N) = true := decide_eq_true (by omega)
    clear hel hn
    go_enter Try.func3, Try.ntmps3
    go_wp2_with fail
    refine (awake_any w).mono ?_
    rintro e w2 ⟨rfl, hb2⟩
    go_wp2
    go_ret
    exact ⟨rfl, hb2⟩
end Go.Proofs.Ytfnmmknbjfmagaa.Bk
