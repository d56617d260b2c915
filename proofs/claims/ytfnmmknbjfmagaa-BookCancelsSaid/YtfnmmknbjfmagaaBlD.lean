/- Of the statements of layer 9: awake. -/
import Derived.Test.YtfnmmknbjfmagaaBoJ
import Derived.Test.YtfnmmknbjfmagaaBoH
import Derived.Test.YtfnmmknbjfmagaaBlB
namespace Go.Proofs.Ytfnmmknbjfmagaa.Bk
open Go.RowKit
set_option linter.unusedVariables false
open Go.Proofs.Ytfnmmknbjfmagaa.Rw
open Go.Proofs.Ytfnmmknbjfmagaa.Da
open Go.Proofs.Ytfnmmknbjfmagaa.Le
/-- A book in a box of the call's own. -/
structure Bx (B : Bs) (b : Bk) (p : Nat) (cs : Array Value) (w : World) : Prop where
  bk : w.heap[p]? = some (.cells cs 26 (0, 0))
  bl : BL B b (.agg cs) w
  lo : B.lo ≤ p
theorem Bx.lt {B : Bs} {b : Bk} {p : Nat} {cs : Array Value} {w : World} (h : Bx B b p cs w) : p < w.heap.size := (Array.getElem?_eq_some_iff.1 h.bk).1
theorem Bx.stays {B : Bs} {b : Bk} {p : Nat} {cs : Array Value} {w w' : World} (h : Bx B b p cs w) (hb : Below w.heap.size w w') : Bx B b p cs w' := ⟨(hb.block p h.lt).trans h.bk, h.bl.stays hb, h.lo⟩
theorem Bx.row {B : Bs} {b : Bk} {p : Nat} {cs : Array Value} {w : World} (h : Bx B b p cs w) : row w p = cs := by unfold Rw.row; rw [h.bk]
theorem Bx.plain {B : Bs} {b : Bk} {p : Nat} {x y z : Value} {w : World} (h : Bx B b p #[x, y, z] w) : plain 3 w p = true := by unfold Rw.plain; rw [h.bk]; rfl
theorem Bx.made {B : Bs} {b : Bk} {cs : Array Value} {w : World} (h : BL B b (.agg cs) w) (hB : B.lo ≤ w.heap.size) : Bx B b w.heap.size cs (w.alloc (.cells cs 26)) := ⟨heap_alloc_new w _, h.stays (below1 _ _), hB⟩
theorem BL.keep {B : Bs} {b : Bk} {v : Value} {w w' : World} (h : BL B b v w) (hk : Keeps B (48 :: eL.ts) w w') : BL B b v w' := by
  obtain ⟨x, y, e, h1, h2⟩ := h
  exact ⟨x, y, e, Is.keep eL 48 h1 hk, Is.keep eL 48 h2 hk⟩
/-- Another book is written into the box. -/
theorem Bx.set {B : Bs} {b b' : Bk} {p : Nat} {cs cs' : Array Value} {w : World} (h : Bx B b p cs w) (hb : BL B b' (.agg cs') w) : Bx B b' p cs' (w.setRow p cs') :=
  ⟨setRow_heap w p _ _ _ _ h.bk, hb.keep (keeps_setRow _ h.bk (by decide) h.lo), h.lo⟩
/-- What lies elsewhere stays. -/
theorem Bx.other {B : Bs} {b b' : Bk} {p q : Nat} {cs cq : Array Value} {w : World} (h : Bx B b p cs w) (k : Bx B b' q cq w) (hq : q ≠ p) (c : Array Value) : Bx B b p cs (w.setRow q c) :=
  ⟨(setRow_other w q p c (fun e => hq e.symm)).trans h.bk, h.bl.keep (keeps_setRow _ k.bk (by decide) k.lo), h.lo⟩
theorem Bx.keepsFl {B : Bs} {b : Bk} {p : Nat} {cs : Array Value} {w : World} (k : Bx B b p cs w) (c : Array Value) {fs : List Fl} {v : Value} (h : FL B fs v w) : FL B fs v (w.setRow p c) := Is.keep eFl 53 h (keeps_setRow _ k.bk (by decide) k.lo)
theorem BL.open' {B : Bs} {b : Bk} {v : Value} {w : World} (h : BL B b v w) : ∃ a1 n1 c1 a2 n2 c2 n, v = .agg #[.slice a1 n1 c1, .slice a2 n2 c2, .int .i64 n] ∧ b.2.2 = n ∧ b.1.length = n1 ∧ b.2.1.length = n2 := by
  obtain ⟨x, y, rfl, h1, h2⟩ := h
  obtain ⟨a1, c1, rfl⟩ := h1.len
  obtain ⟨a2, c2, rfl⟩ := h2.len
  exact ⟨a1, _, c1, a2, _, c2, _, rfl, rfl, rfl, rfl⟩
def Small (b : Bk) : Prop := b.1.length ≤ 1000 ∧ (flat b.1).length ≤ 1000 ∧ b.2.1.length ≤ 1000 ∧ (flat b.2.1).length ≤ 1000
theorem small_right {b : Bk} (h : RightB b) : Small b := by
  obtain ⟨h1, h2, h3, h4⟩ := right_small h
  exact ⟨by omega, by omega, by omega, by omega⟩
/-- What Place tells, at a known answer. -/
def PlP (B : Bs) (b : Bk) (fs : List Fl) (lf id er : Int) (w : World) (e : Ending) (w' : World) : Prop :=
  ∃ a1 n1 c1 a2 n2 c2 n fa fn fc, e = .returned (.tuple #[.agg #[.slice a1 n1 c1, .slice a2 n2 c2, .int .i64 n], .slice fa fn fc, .int .i64 lf, .int .i64 id, .int .i64 er]) ∧ b.2.2 = n ∧ fs.length = fn ∧ Below w.heap.size w w' ∧ BL B b (.agg #[.slice a1 n1 c1, .slice a2 n2 c2, .int .i64 n]) w' ∧ FL B fs (.slice fa fn fc) w'
theorem plP_of {B : Bs} {c : Pl} {w w' : World} {e : Ending} (h : PostPl B c w e w') : PlP B c.1 c.2.1 c.2.2.1 c.2.2.2.1 c.2.2.2.2 w e w' := by
  obtain ⟨bv, fv, rfl, hb, h1, h2⟩ := h
  obtain ⟨a1, n1, c1, a2, n2, c2, n, rfl, hn, _, _⟩ := h1.open'
  obtain ⟨fa, fc, rfl⟩ := h2.len
  exact ⟨a1, n1, c1, a2, n2, c2, n, fa, _, fc, rfl, hn, rfl, hb, h1, h2⟩
theorem place_is {b : Bk} {ow s p q : Int} {rest : Bool} {c : Pl} (h : Hid (place b ow s p q rest = c)) (hs : Small b) (B : Bs) (v : Value) (w : World) (hb : BL B b v w) (hB : B.le w.heap.size) :
    Calls Try.prog 14 #[v, .int .i64 ow, .int .i64 s, .int .i64 p, .int .i64 q, .bool rest] w (PlP B c.1 c.2.1 c.2.2.1 c.2.2.2.1 c.2.2.2.2 w) := by
  rw [← h.out]; exact (place_any B b v ow s p q rest w hb hB hs.1 hs.2.1 hs.2.2.1 hs.2.2.2).mono fun e w' h => plP_of h
theorem rPlace_is {b : Bk} {ow s p q : Int} {rest : Bool} {c : Pl} (h : Hid (place b ow s p q rest = c)) (hs : Small b) (B : Bs) (v : Value) (w : World) (hb : BL B b v w) (hB : B.le w.heap.size) :
    Calls Try.prog 15 #[v, .int .i64 ow, .int .i64 s, .int .i64 p, .int .i64 q, .bool rest] w (PlP B c.1 c.2.1 c.2.2.1 c.2.2.2.1 c.2.2.2.2 w) := by
  obtain ⟨h1, h2, h3, h4⟩ := hs
  rw [← h.out]; exact (rPlace_any B b v ow s p q rest w hb hB (by omega) (by omega) (by omega) (by omega)).mono fun e w' h => plP_of h
/-- What Cancel tells, at a known answer. -/
def CaP (B : Bs) (b : Bk) (q : Option Od) (er : Int) (w : World) (e : Ending) (w' : World) : Prop :=
  ∃ a1 n1 c1 a2 n2 c2 n, e = .returned (.tuple #[.agg #[.slice a1 n1 c1, .slice a2 n2 c2, .int .i64 n], .agg (cO q), .int .i64 er]) ∧ b.2.2 = n ∧ Below w.heap.size w w' ∧ BL B b (.agg #[.slice a1 n1 c1, .slice a2 n2 c2, .int .i64 n]) w'
theorem caP_of {B : Bs} {c : Bk × Option Od × Int} {w w' : World} {e : Ending} (h : PostC B c w e w') : CaP B c.1 c.2.1 c.2.2 w e w' := by
  obtain ⟨bv, rfl, hb, h1⟩ := h
  obtain ⟨a1, n1, c1, a2, n2, c2, n, rfl, hn, _, _⟩ := h1.open'
  exact ⟨a1, n1, c1, a2, n2, c2, n, rfl, hn, hb, h1⟩
theorem cancel_is {b : Bk} {ow id : Int} {c : Bk × Option Od × Int} (h : Hid (cancel b ow id = c)) (hs : Small b) (B : Bs) (v : Value) (w : World) (hb : BL B b v w) (hB : B.le w.heap.size) :
    Calls Try.prog 11 #[v, .int .i64 ow, .int .i64 id] w (CaP B c.1 c.2.1 c.2.2 w) := by
  rw [← h.out]; exact (cancel_any B b v ow id w hb hB hs.1 hs.2.1 hs.2.2.1 hs.2.2.2).mono fun e w' h => caP_of h
theorem rCancel_is {b : Bk} {ow id : Int} {c : Bk × Option Od × Int} (h : Hid (cancel b ow id = c)) (hs : Small b) (B : Bs) (v : Value) (w : World) (hb : BL B b v w) (hB : B.le w.heap.size) :
    Calls Try.prog 12 #[v, .int .i64 ow, .int .i64 id] w (CaP B c.1 c.2.1 c.2.2 w) := by
  obtain ⟨h1, h2, h3, h4⟩ := hs
  rw [← h.out]; exact (rCancel_any B b v ow id w hb hB (by omega) (by omega) (by omega) (by omega)).mono fun e w' h => caP_of h
theorem bl_new {B : Bs} (w : World) : BL B bk0 (.agg #[.slice none 0 0, .slice none 0 0, .int .i64 1]) w := ⟨_, _, rfl, Is.nil _ _ _ _, Is.nil _ _ _ _⟩
@[go_sem] theorem eqF_self (f : Fl) : eqF f f = true := by simp [eqF]
theorem sm0 : Small bk0 := small_right right_new
theorem sm1 : Small bk1 := small_right awR1
theorem sm2 : Small bk2 := small_right awR2
theorem sm3 : Small bk3 := small_right awR3
theorem awC (B : Bs) (v : Value) (w : World) (hb : BL B bk3 v w) (hB : B.le w.heap.size) : Calls Try.prog 11 #[v, .int .i64 2, .int .i64 2] w fun e w' =>
    ∃ a1 n1 c1 a2 n2 c2 n, e = .returned (.tuple #[.agg #[.slice a1 n1 c1, .slice a2 n2 c2, .int .i64 n], .agg #[.int .i64 2, .int .i64 2, .int .i64 2, .int .i64 11, .int .i64 3], .int .i64 0]) ∧ Below w.heap.size w w' :=
  (cancel_is (Lib.hid aw5) sm3 B v w hb hB).mono fun e w' ⟨a1, n1, c1, a2, n2, c2, n, h1, _, h2, _⟩ => ⟨a1, n1, c1, a2, n2, c2, n, h1, h2⟩
set_option maxRecDepth 8000 in
set_option maxHeartbeats 4000000 in
theorem awake_any (w : World) : Calls Try.prog 8 #[] w fun e w' => e = .returned (.bool true) ∧ Below w.heap.size w w' := by
  obtain ⟨B, hB⟩ : ∃ B, B = Bs.of w.heap.size := ⟨_, rfl⟩
  have hle : B.le w.heap.size := by rw [hB]; exact Bs.of_le _
  have HL := Lib.hid (show ∀ u, Below w.heap.size w u → B.le u.heap.size ∧ B.lo ≤ u.heap.size from fun u hu => ⟨hle.mono hu.size, (hle.mono hu.size).1⟩)
  clear hB hle
  go_enter Try.func8, Try.ntmps8
  go_wp2_with fail
  refine (new_any _).mono ?_
  rintro e w1 ⟨rfl, hb1⟩
  go_wp2_with fail
  refine (place_is (Lib.hid aw1) sm0 B _ w1 (bl_new w1) (HL.out w1 hb1).1).mono ?_
  rintro e w2 ⟨a1, n1, c1, a2, n2, c2, n, fa, fn, fc, rfl, -, -, hd, hbl, -⟩
  have hb2 := nx hb1 hd
  have HZw := Lib.hid hb2.size
  obtain ⟨M, hM⟩ : ∃ M, M = w2.alloc (.cells #[.slice a1 n1 c1, .slice a2 n2 c2, .int .i64 n] 26) := ⟨_, rfl⟩
  have hbx := Bx.made hbl (HL.out w2 hb2).2
  rw [← hM] at hbx
  have hbM := nx hb2 (hM ▸ below1 w2 _)
  have HM := Lib.hid hM
  have HX := Lib.hid hbx
  have r0 := hbx.row
  have z0 := hbx.lt
  clear hM hbx hbl hd hb1 hb2
  go_wp2_with fail
  rw [← HM.out]
  refine (place_is (Lib.hid aw2) sm1 B _ M HX.out.bl (HL.out M hbM).1).mono ?_
  rintro e w3 ⟨a3, n3, c3, a4, n4, c4, m, fb, fm, fd, rfl, -, -, hd, hbl, -⟩
  have hb3 := nx hbM hd
  have hx3 := HX.out.stays hd
  have p0 := hx3.plain
  have z1 := hx3.lt
  have hzw := HZw.out
  obtain ⟨N, hN⟩ : ∃ N, N = w3.setRow w2.heap.size #[.slice a3 n3 c3, .slice a4 n4 c4, .int .i64 m] := ⟨_, rfl⟩
  have hbx := hx3.set hbl
  rw [← hN] at hbx
  have hbN : Below w.heap.size w N := hN ▸ below_setRow hb3 hzw _
  have HN := Lib.hid hN
  have HXN := Lib.hid hbx
  clear r0 z0
  have r0 := hbx.row
  rw [hN] at r0
  clear hN hbx hbl hd hb3 hx3 hbM HX
  go_wp2_with fail
  rw [← HN.out]
  refine (place_is (Lib.hid aw3) sm2 B _ N HXN.out.bl (HL.out N hbN).1).mono ?_
  rintro e w4 ⟨a5, n5, c5, a6, n6, c6, l, fe, fk, fh, rfl, -, hfk, hd, hbl, hfl⟩
  have hb4 := nx hbN hd
  obtain ⟨M4, hM4⟩ : ∃ M, M = w4.alloc (.cells #[.slice a5 n5 c5, .slice a6 n6 c6, .int .i64 l] 26) := ⟨_, rfl⟩
  have hbx4 := Bx.made hbl (HL.out w4 hb4).2
  rw [← hM4] at hbx4
  have hd4 : Below N.heap.size N M4 := nx hd (hM4 ▸ below1 w4 _)
  have hx4 := HXN.out.stays hd4
  have hx4' := HXN.out.stays hd
  have HFl := Lib.hid (Is.stays eFl 53 hfl (show Below w4.heap.size w4 M4 from hM4 ▸ below1 w4 _))
  have hbM4 := nx hbN hd4
  have HM4 := Lib.hid hM4
  have HX4 := Lib.hid hbx4
  have HY4 := Lib.hid hx4
  have HFk := Lib.hid hfk
  clear r0 p0 z1
  have r0 := hx4'.row
  have z0 := hx4'.lt
  clear hM4 hbx4 hbl hd hfl hb4 hd4 hx4 hx4' hfk
  go_wp2_with fail
  rw [← HM4.out]
  refine (place_is (Lib.hid aw4) sm2 B _ M4 HY4.out.bl (HL.out M4 hbM4).1).mono ?_
  rintro e w5 ⟨a7, n7, c7, a8, n8, c8, o, fu, fv, fw, rfl, -, -, hd, -, -⟩
  obtain ⟨M5, hM5⟩ : ∃ M, M = w5.alloc (.cells #[.slice a7 n7 c7, .slice a8 n8 c8, .int .i64 o] 26) := ⟨_, rfl⟩
  have hd5 : Below M4.heap.size M4 M5 := nx hd (hM5 ▸ below1 w5 _)
  have hx5 := HX4.out.stays hd5
  have hx5' := HX4.out.stays hd
  have HF5 := Lib.hid (Is.stays eFl 53 HFl.out hd5)
  have hbM5 := nx hbM4 hd5
  have HM5 := Lib.hid hM5
  have HX5 := Lib.hid hx5
  clear r0 z0
  have r0 := hx5'.row
  have z0 := hx5'.lt
  clear hM5 hd hd5 hx5 hx5' HFl
  go_wp2_with fail
  rw [← HM5.out]
  refine (awC B _ M5 HX5.out.bl (HL.out M5 hbM5).1).mono ?_
  rintro e w6 ⟨b1, m1, d1, b2, m2, d2, h, rfl, hd⟩
  obtain ⟨M6, hM6⟩ : ∃ M, M = (w6.alloc (.cells #[.slice b1 m1 d1, .slice b2 m2 d2, .int .i64 h] 26)).alloc (.cells #[.int .i64 2, .int .i64 2, .int .i64 2, .int .i64 11, .int .i64 3] 31) := ⟨_, rfl⟩
  have hd6 : Below M5.heap.size M5 M6 := nx hd (hM6 ▸ below2 w6 _ _)
  have hbM6 := nx hbM5 hd6
  have hf6 := Is.stays eFl 53 HF5.out hd6
  rw [← HFk.out] at hf6
  rcases hf6.cases with ⟨e, _⟩ | ⟨_, g, off, cc, e, hat⟩
  · cases e
  simp only [Value.slice.injEq] at e
  obtain ⟨rfl, _, rfl⟩ := e
  obtain ⟨s0, s1, s2, s3, s4⟩ := atFl hat 1 (by decide)
  have hg := hat.1
  have HM6 := Lib.hid hM6
  have hfk2 : fk = 2 := HFk.out.symm
  subst hfk2
  have hd' : (w6.alloc (.cells #[.slice b1 m1 d1, .slice b2 m2 d2, .int .i64 h] 26)).heap.size = w6.heap.size + 1 := by simp
  have o4 : M6.cell? ⟨w6.heap.size + 1, 4, none⟩ = some (.int .i64 3) := by rw [hM6]; simp [go_sem]
  have hz6 : w6.heap.size + 1 < M6.heap.size := by rw [hM6]; simp
  have HB6 := Lib.hid hbM6
  try simp only at s0 s1 s2 s3 s4
  rw [hM6] at s0 s1 s2 s3 s4 o4 hz6 hg
  clear hM6 hd hd6 hbM6 hf6 hat hd' r0 z0
  go_wp2
  go_ret
  exact ⟨rfl, by rw [← HM6.out]; exact HB6.out⟩
end Go.Proofs.Ytfnmmknbjfmagaa.Bk
