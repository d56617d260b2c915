/- Of the statements of layer 10: awake, step. -/
import Derived.Test.YthecinmekoaphaaGreatQaBC
import Derived.Test.YthecinmekoaphaaGreatQaBW
import Derived.Test.YthecinmekoaphaaGreatQaBX
import Derived.Deep.DeepCutAuto
import Derived.Test.YthecinmekoaphaaGreatQaAF
import Derived.Deep.Slices
import Derived.Deep.Fields
import Derived.ChangeSame
import Derived.OpenShut
set_option linter.unusedVariables false
namespace Go.Proofs.YthecinmekoaphaaGreat.La
open Go.RowKit
open Go.Proofs.YthecinmekoaphaaGreat.Rw
open Go.Proofs.YthecinmekoaphaaGreat.Da
open Go.Proofs.YthecinmekoaphaaGreat.Le
open Go.Proofs.YthecinmekoaphaaGreat.Bk
open Go.Proofs.YthecinmekoaphaaGreat.Ac (Hd Pu HL pmay pmay_iff tot total giveE giveL takeE takeL)
theorem len_flat {s : Int} : ∀ {l : List Lv}, (∀ v ∈ l, okLv s v) → l.length ≤ (flat l).length
  | [], _ => Nat.zero_le _
  | v :: r, h => by
    have h1 := (h v List.mem_cons_self).1
    have h2 := len_flat (l := r) fun x hx => h x (List.mem_cons_of_mem _ hx)
    have h3 := List.length_pos_iff.2 h1
    rw [flat_cons, List.length_append, List.length_cons]; omega
/-- A right book is a small one. -/
theorem sm_right {l : Ln} (h : RightN l) : Sm l := by
  have hb := h.book
  have hc := hb.cnt
  unfold cntB at hc
  have h1 : l.2.2.1.1.length ≤ (flat l.2.2.1.1).length := len_flat hb.buys.2.1
  have h2 : l.2.2.1.2.1.length ≤ (flat l.2.2.1.2.1).length := len_flat hb.sells.2.1
  have h3 := Ac.right_512 h.owed
  exact ⟨by omega, by omega, by omega, by omega, by omega⟩
/-- What a call of Place or Collect yields, over a base. -/
def NP (B : Bs) (m : Ln) (fr : List Hd) (fl : List Fl) (n e : Int) (v : Value) (u : World) : Prop :=
  ∃ a1 n1 c1 a2 n2 c2 a3 n3 c3 a4 n4 c4 a5 c5, v = .tuple #[.agg (cN m.1 m.2.1 (.slice a1 n1 c1) (.slice a2 n2 c2) m.2.2.1.2.2 (.slice a3 n3 c3)), .slice a4 n4 c4, .slice a5 fl.length c5, .int .i64 n, .int .i64 e] ∧
    LL B m.2.2.1.1 (.slice a1 n1 c1) u ∧ LL B m.2.2.1.2.1 (.slice a2 n2 c2) u ∧ HL B.lo m.2.2.2 (.slice a3 n3 c3) u ∧ HL B.lo fr (.slice a4 n4 c4) u
theorem NP.stays {B : Bs} {m : Ln} {fr : List Hd} {fl : List Fl} {n e : Int} {v : Value} {u u' : World} (h : NP B m fr fl n e v u) (hb : Below u.heap.size u u') : NP B m fr fl n e v u' := by
  obtain ⟨a1, n1, c1, a2, n2, c2, a3, n3, c3, a4, n4, c4, a5, c5, hv, h1, h2, h3, h4⟩ := h
  exact ⟨a1, n1, c1, a2, n2, c2, a3, n3, c3, a4, n4, c4, a5, c5, hv, Is.stays eL 98 h1 hb, Is.stays eL 98 h2 hb, hl_stays h3 hb, hl_stays h4 hb⟩
theorem NP.inv {B : Bs} {m : Ln} {fr : List Hd} {fl : List Fl} {n e i j k : Int} {a1 a2 a3 a4 a5 : Option Addr} {n1 c1 n2 c2 n3 c3 n4 c4 n5 c5 : Nat} {p q : Int} {u : World}
    (h : NP B m fr fl n e (.tuple #[.agg (cN i j (.slice a1 n1 c1) (.slice a2 n2 c2) k (.slice a3 n3 c3)), .slice a4 n4 c4, .slice a5 n5 c5, .int .i64 p, .int .i64 q]) u) :
    LL B m.2.2.1.1 (.slice a1 n1 c1) u ∧ LL B m.2.2.1.2.1 (.slice a2 n2 c2) u ∧ HL B.lo m.2.2.2 (.slice a3 n3 c3) u ∧ HL B.lo fr (.slice a4 n4 c4) u := by
  obtain ⟨x1, y1, z1, x2, y2, z2, x3, y3, z3, x4, y4, z4, x5, z5, hv, h1, h2, h3, h4⟩ := h
  simp only [Value.tuple.injEq, Array.mk.injEq, List.cons.injEq, Value.agg.injEq, cN, Value.slice.injEq, and_true] at hv
  obtain ⟨⟨-, -, ⟨rfl, rfl, rfl⟩, ⟨rfl, rfl, rfl⟩, -, ⟨rfl, rfl, rfl⟩⟩, ⟨rfl, rfl, rfl⟩, -⟩ := hv
  exact ⟨h1, h2, h3, h4⟩
theorem nplace_is {l m : Ln} {fr fr' : List Hd} {fl : List Fl} {n e ow s p q : Int} {rest : Bool} (h : Hid (placeN l fr ow s p q rest = (m, fr', fl, n, e))) (B : Bs) (v fv : Value) (w : World) (hv : LN B l v w) (hf : HL B.lo fr fv w) (hB : B.le w.heap.size) (hs : Sm l) (hm : fr.length ≤ 1000) :
    Calls Tryz.prog 16 #[v, fv, .int .i64 ow, .int .i64 s, .int .i64 p, .int .i64 q, .bool rest] w (Post (NP B m fr' fl n e) w) := by
  refine (lplace_any B l v fr fv ow s p q rest w hv hf hB hs hm).mono ?_
  intro e' w' k
  rw [h.out] at k
  obtain ⟨x, y, z, rfl, hb, h1, h2, h3⟩ := k
  obtain ⟨a1, n1, c1, a2, n2, c2, a3, n3, c3, rfl, -, -, -, h4, h5, h6⟩ := h1.open'
  obtain ⟨a4, c4, rfl⟩ := hl_slice h2
  obtain ⟨a5, c5, rfl⟩ := h3.len
  exact ⟨_, rfl, hb, _, _, _, _, _, _, _, _, _, _, _, _, _, _, rfl, h4, h5, h6, h2⟩
theorem ncollect_is {l m : Ln} {fr fr' : List Hd} {n1 n2 e ow : Int} (h : Hid (collectN l fr ow = (m, fr', n1, n2, e))) (B : Bs) (v fv : Value) (w : World) (hv : LN B l v w) (hf : HL B.lo fr fv w) (hB : B.le w.heap.size) (hs : Sm l) (hm : fr.length ≤ 1000) :
    Calls Tryz.prog 14 #[v, fv, .int .i64 ow] w fun e' w' => ∃ a1 n1' c1 a2 n2' c2 a3 n3 c3 a4 n4 c4, e' = .returned (.tuple #[.agg (cN m.1 m.2.1 (.slice a1 n1' c1) (.slice a2 n2' c2) m.2.2.1.2.2 (.slice a3 n3 c3)), .slice a4 n4 c4, .int .i64 n1, .int .i64 n2, .int .i64 e]) ∧ Below w.heap.size w w' ∧
      LL B m.2.2.1.1 (.slice a1 n1' c1) w' ∧ LL B m.2.2.1.2.1 (.slice a2 n2' c2) w' ∧ HL B.lo m.2.2.2 (.slice a3 n3 c3) w' ∧ HL B.lo fr' (.slice a4 n4 c4) w' := by
  refine (lcollect_any B l v fr fv ow w hv hf hB hs hm).mono ?_
  intro e' w' k
  rw [h.out] at k
  obtain ⟨x, y, rfl, hb, h1, h2⟩ := k
  obtain ⟨a1, n1, c1, a2, n2, c2, a3, n3, c3, rfl, -, -, -, h4, h5, h6⟩ := h1.open'
  obtain ⟨a4, c4, rfl⟩ := hl_slice h2
  exact ⟨_, _, _, _, _, _, _, _, _, _, _, _, rfl, hb, h4, h5, h6, h2⟩
/-- Behind a call of awake: the lane in the box, and what is free. -/
def AwP (B : Bs) (m : Ln) (fr : List Hd) (fl : List Fl) (s : Nat) (w : World) (f g i e : Value) (u : World) : Prop :=
  ∃ a1 n1 c1 a2 n2 c2 a3 n3 c3 a4 n4 c4 a5 c5, f = .slice a4 n4 c4 ∧ g = .slice a5 fl.length c5 ∧ i = .int .i64 1 ∧ e = .int .i64 0 ∧ LB B m (.slice a1 n1 c1) (.slice a2 n2 c2) (.slice a3 n3 c3) s u ∧ HL B.lo fr f u ∧ Below w.heap.size w u
/-- The box is written, as NP tells. -/
theorem box_put {B : Bs} {l m : Ln} {x y o x' y' o' f : Value} {s : Nat} {fr : List Hd} {w u : World} (h : LB B l x y o s u) (hs : w.heap.size ≤ s) (hb : Below w.heap.size w u) (h1 : LL B m.2.2.1.1 x' u) (h2 : LL B m.2.2.1.2.1 y' u) (h3 : HL B.lo m.2.2.2 o' u) (h4 : HL B.lo fr f u) :
    LB B m x' y' o' s (u.setRow s (cN m.1 m.2.1 x' y' m.2.2.1.2.2 o')) ∧ HL B.lo fr f (u.setRow s (cN m.1 m.2.1 x' y' m.2.2.1.2.2 o')) ∧ Below w.heap.size w (u.setRow s (cN m.1 m.2.1 x' y' m.2.2.1.2.2 o')) :=
  ⟨LB.put h.bk h.lo h1 h2 h3, hl_keep h4 (keeps_setRow _ h.bk (by decide) h.lo), below_setRow hb hs _⟩
set_option maxRecDepth 16000 in
set_option maxHeartbeats 8000000 in
theorem awake_any (w : World) : Calls Tryz.prog 10 #[] w fun e w' => e = .returned (.bool true) ∧ Below w.heap.size w w' := by
  obtain ⟨B, hB⟩ : ∃ B, B = Bs.of w.heap.size := ⟨_, rfl⟩
  have hle : B.le w.heap.size := by rw [hB]; exact Bs.of_le _
  have HB := Lib.hid (show ∀ u, Below w.heap.size w u → B.le u.heap.size from fun u hu => hle.mono hu.size)
  have HN := Lib.hid (lnew_any 1 2 w)
  have HLe := Lib.hid hle
  clear hB hle
  go_enter Tryz.func10, Tryz.ntmps10
  go_wp2_with fail
  refine HN.out.mono ?_
  rintro e w1 ⟨v1, rfl, hb1, hln⟩
  have hln1 : LN B ln0 v1 w1 := hln B HLe.out
  obtain ⟨a1, n1, c1, a2, n2, c2, a3, n3, c3, rfl, -, -, -, hk1, hk2, hk3⟩ := hln1.open'
  rw [show newE 1 2 = 0 from rfl]
  obtain ⟨M1, hM1⟩ : ∃ M, M = w1.alloc (.cells (cN 1 2 (.slice a1 n1 c1) (.slice a2 n2 c2) 1 (.slice a3 n3 c3)) 28) := ⟨_, rfl⟩
  have hbM1 : Below w.heap.size w M1 := nx hb1 (hM1 ▸ below1 w1 _)
  have HX1 := Lib.hid (show LB B ln0 (.slice a1 n1 c1) (.slice a2 n2 c2) (.slice a3 n3 c3) w1.heap.size M1 from by rw [hM1]; exact LB.made (l := ln0) hk1 hk2 hk3 (HB.out w1 hb1).1)
  have HM1 := Lib.hid hM1
  obtain ⟨s, hs⟩ : ∃ s, w1.heap.size = s := ⟨_, rfl⟩
  rw [hs] at HX1
  have hsz : w.heap.size ≤ s := by have := hb1.size; omega
  have HS0 := Lib.hid (sm_right awR0)
  have HS1 := Lib.hid (sm_right awK1.right)
  have HS2 := Lib.hid (sm_right awK2.right)
  clear hln hln1 hk1 hk2 hk3 hM1
  go_upto_region 2 with fail
  rw [← HM1.out]
  go_cut [3, 4, 5, 6] (AwP B ln1 fr1 [] s w)
  case first =>
    as_aux_lemma =>
      refine Rh.region (fun _ => True) (fun u => Below M1.heap.size M1 u) (fun _ _ _ _ => trivial) (fun _ _ h k => nx h k) (trivial) ((Below.refl _ _).drew) [0, 1, 2, 3, 4, 5, 6, 7, 8, 9, 10, 11, 12, 13] (by kernel_rfl) (by kernel_rfl) (by kernel_rfl) (fun _ _ d _ _ h => by cases d <;> exact h) ?_
      refine steps_two (i := 0) (j := 1) (ord' := [0, 2, 3, 4, 5, 6, 7, 8, 9, 10, 11, 12, 13]) (by kernel_rfl) rfl ?_ ?_
      · refine Rh.One.val (fun v _ => v = .agg (cN 1 2 (.slice a1 n1 c1) (.slice a2 n2 c2) 1 (.slice a3 n3 c3))) (fun _ _ _ h _ => h) (by rfl) (by rfl) ?_ ?_
        · intro w_ _ hG_
          have r0 := (HX1.out.stays hG_).row
          refine ⟨.agg (cN 1 2 (.slice a1 n1 c1) (.slice a2 n2 c2) 1 (.slice a3 n3 c3)), w_, ?_, Below.refl _ _, rfl⟩
          go_simp
        intro v0 u0 hv0
        subst hv0
        simp only [Act.put, List.setIfInBounds_toArray, List.set_cons_zero, List.set_cons_succ]
        refine Rh.Steps.forced (i := 1) (by kernel_rfl) ?_
        refine Rh.One.call (fun v u => HL B.lo (richK 100 4) v u) (fun v _ _ h k => hl_stays h k) (f := ?_) (args := ?_) (by rfl) (by rfl) ?_ ?_ ?_
        rotate_left 2
        · intro w_ hS_ hG_; go_simp <;> first | with_reducible rfl | (constructor <;> with_reducible rfl)
        · intro w_ hS_ hG_; (go_at_call 11; refine (rich_any (lo := B.lo) 100 w_).mono ?_; rintro e w' ⟨v, rfl, hb9, ho⟩; exact ⟨v, rfl, hb9, ho⟩)
        intro v1 u_ hv1
        simp only [Act.put, List.setIfInBounds_toArray, List.set_cons_zero, List.set_cons_succ]
        refine Rh.Steps.forced (i := 2) (by kernel_rfl) ?_
        refine Rh.One.call (NP B ln1 fr1 [] 1 0) (fun v _ _ h k => h.stays k) (f := ?_) (args := ?_) (by rfl) (by rfl) ?_ ?_ ?_
        rotate_left 2
        · intro w_ hS_ hG_; go_simp <;> first | with_reducible rfl | (constructor <;> with_reducible rfl)
        · intro w_ hS_ hG_; (go_at_call 16; refine (nplace_is (Lib.hid aw1) B _ _ w_ (HX1.out.stays hG_.1.1).ln hG_.2 (HB.out w_ (nx hbM1 hG_.1.1)) HS0.out (rich_len _ _)).mono ?_; rintro e w' ⟨v, rfl, hb9, ho⟩; exact ⟨v, rfl, hb9, ho⟩)
        intro v2 u_ hv2
        simp only [Act.put, List.setIfInBounds_toArray, List.set_cons_zero, List.set_cons_succ]
        obtain ⟨b1, m1, d1, b2, m2, d2, b3, m3, d3, b4, m4, d4, b5, d5, rfl, -, -, -, -⟩ := hv2
        repeat (first | (refine Rh.Steps.skip (by rfl) (by kernel_rfl) (by rfl) ?_; simp only [Act.put, List.setIfInBounds_toArray, List.set_cons_zero, List.set_cons_succ]) | (refine Rh.Steps.pure (v := ?_) (by rfl) (by kernel_rfl) (by rfl) ?_ ?_; rotate_left; (intro w_ hS_; skip; go_simp <;> with_reducible rfl); simp only [Act.put, List.setIfInBounds_toArray, List.set_cons_zero, List.set_cons_succ]))
        refine Rh.Steps.forced (i := 9) (by kernel_rfl) ?_
        refine Rh.One.store (fun u => LB B ln1 (.slice b1 m1 d1) (.slice b2 m2 d2) (.slice b3 m3 d3) s u ∧ HL B.lo fr1 (.slice b4 m4 d4) u ∧ Below w.heap.size w u) (fun _ _ h k => ⟨h.1.stays k, hl_stays h.2.1 k, nx h.2.2 k⟩) (by rfl) (by rfl) ?_ ?_
        · intro w_ _ hG_
          have hx := HX1.out.stays hG_.1.1.1
          obtain ⟨h1, h2, h3, h4⟩ := hG_.2.inv
          have hbw := nx hbM1 hG_.1.1.1
          have hp := hx.plain
          refine ⟨w_.setRow s (cN 1 2 (.slice b1 m1 d1) (.slice b2 m2 d2) 2 (.slice b3 m3 d3)), ?_, trivial, box_put (m := ln1) hx hsz hbw h1 h2 h3 h4⟩
          clear hG_ hx h1 h2 h3 h4 hbw
          go_simp
        repeat (first | (refine Rh.Steps.skip (by rfl) (by kernel_rfl) (by rfl) ?_; simp only [Act.put, List.setIfInBounds_toArray, List.set_cons_zero, List.set_cons_succ]) | (refine Rh.Steps.pure (v := ?_) (by rfl) (by kernel_rfl) (by rfl) ?_ ?_; rotate_left; (intro w_ hS_; skip; go_simp <;> with_reducible rfl); simp only [Act.put, List.setIfInBounds_toArray, List.set_cons_zero, List.set_cons_succ]))
        refine Rh.Steps.nil (by kernel_rfl) ?_
        intro w9 _ hG9
        go_wp2_with fail
        go_meet
        exact ⟨b1, m1, d1, b2, m2, d2, b3, m3, d3, b4, m4, d4, b5, d5, rfl, rfl, rfl, rfl, hG9.1, hG9.2.1, hG9.2.2⟩
      · refine Rh.One.call (fun v u => HL B.lo (richK 100 4) v u) (fun v _ _ h k => hl_stays h k) (f := ?_) (args := ?_) (by rfl) (by rfl) ?_ ?_ ?_
        rotate_left 2
        · intro w_ hS_ hG_; go_simp <;> first | with_reducible rfl | (constructor <;> with_reducible rfl)
        · intro w_ hS_ hG_; (go_at_call 11; refine (rich_any (lo := B.lo) 100 w_).mono ?_; rintro e w' ⟨v, rfl, hb9, ho⟩; exact ⟨v, rfl, hb9, ho⟩)
        intro v1 u_ hv1
        simp only [Act.put, List.setIfInBounds_toArray, List.set_cons_zero, List.set_cons_succ]
        refine Rh.Steps.forced (i := 0) (by kernel_rfl) ?_
        refine Rh.One.val (fun v _ => v = .agg (cN 1 2 (.slice a1 n1 c1) (.slice a2 n2 c2) 1 (.slice a3 n3 c3))) (fun _ _ _ h _ => h) (by rfl) (by rfl) ?_ ?_
        · intro w_ _ hG_
          have r0 := (HX1.out.stays hG_.1).row
          refine ⟨.agg (cN 1 2 (.slice a1 n1 c1) (.slice a2 n2 c2) 1 (.slice a3 n3 c3)), w_, ?_, Below.refl _ _, rfl⟩
          clear hG_
          go_simp
        intro v0 u0 hv0
        subst hv0
        simp only [Act.put, List.setIfInBounds_toArray, List.set_cons_zero, List.set_cons_succ]
        refine Rh.Steps.forced (i := 2) (by kernel_rfl) ?_
        refine Rh.One.call (NP B ln1 fr1 [] 1 0) (fun v _ _ h k => h.stays k) (f := ?_) (args := ?_) (by rfl) (by rfl) ?_ ?_ ?_
        rotate_left 2
        · intro w_ hS_ hG_; go_simp <;> first | with_reducible rfl | (constructor <;> with_reducible rfl)
        · intro w_ hS_ hG_; (go_at_call 16; refine (nplace_is (Lib.hid aw1) B _ _ w_ (HX1.out.stays hG_.1.1).ln hG_.1.2 (HB.out w_ (nx hbM1 hG_.1.1)) HS0.out (rich_len _ _)).mono ?_; rintro e w' ⟨v, rfl, hb9, ho⟩; exact ⟨v, rfl, hb9, ho⟩)
        intro v2 u_ hv2
        simp only [Act.put, List.setIfInBounds_toArray, List.set_cons_zero, List.set_cons_succ]
        obtain ⟨b1, m1, d1, b2, m2, d2, b3, m3, d3, b4, m4, d4, b5, d5, rfl, -, -, -, -⟩ := hv2
        repeat (first | (refine Rh.Steps.skip (by rfl) (by kernel_rfl) (by rfl) ?_; simp only [Act.put, List.setIfInBounds_toArray, List.set_cons_zero, List.set_cons_succ]) | (refine Rh.Steps.pure (v := ?_) (by rfl) (by kernel_rfl) (by rfl) ?_ ?_; rotate_left; (intro w_ hS_; skip; go_simp <;> with_reducible rfl); simp only [Act.put, List.setIfInBounds_toArray, List.set_cons_zero, List.set_cons_succ]))
        refine Rh.Steps.forced (i := 9) (by kernel_rfl) ?_
        refine Rh.One.store (fun u => LB B ln1 (.slice b1 m1 d1) (.slice b2 m2 d2) (.slice b3 m3 d3) s u ∧ HL B.lo fr1 (.slice b4 m4 d4) u ∧ Below w.heap.size w u) (fun _ _ h k => ⟨h.1.stays k, hl_stays h.2.1 k, nx h.2.2 k⟩) (by rfl) (by rfl) ?_ ?_
        · intro w_ _ hG_
          have hx := HX1.out.stays hG_.1.1.1
          obtain ⟨h1, h2, h3, h4⟩ := hG_.2.inv
          have hbw := nx hbM1 hG_.1.1.1
          have hp := hx.plain
          refine ⟨w_.setRow s (cN 1 2 (.slice b1 m1 d1) (.slice b2 m2 d2) 2 (.slice b3 m3 d3)), ?_, trivial, box_put (m := ln1) hx hsz hbw h1 h2 h3 h4⟩
          clear hG_ hx h1 h2 h3 h4 hbw
          go_simp
        repeat (first | (refine Rh.Steps.skip (by rfl) (by kernel_rfl) (by rfl) ?_; simp only [Act.put, List.setIfInBounds_toArray, List.set_cons_zero, List.set_cons_succ]) | (refine Rh.Steps.pure (v := ?_) (by rfl) (by kernel_rfl) (by rfl) ?_ ?_; rotate_left; (intro w_ hS_; skip; go_simp <;> with_reducible rfl); simp only [Act.put, List.setIfInBounds_toArray, List.set_cons_zero, List.set_cons_succ]))
        refine Rh.Steps.nil (by kernel_rfl) ?_
        intro w9 _ hG9
        go_wp2_with fail
        go_meet
        exact ⟨b1, m1, d1, b2, m2, d2, b3, m3, d3, b4, m4, d4, b5, d5, rfl, rfl, rfl, rfl, hG9.1, hG9.2.1, hG9.2.2⟩
  case rest =>
    obtain ⟨b1, m1, d1, b2, m2, d2, b3, m3, d3, b4, m4, d4, b5, d5, rfl, rfl, rfl, rfl, hx, hf, hb⟩ := hcut
    have HX2 := Lib.hid hx
    have HF2 := Lib.hid hf
    have r0 := hx.row
    have z0 := hx.lt
    have p0 := hx.plain
    clear hx hf
    go_wp2_with fail
    refine (nplace_is (Lib.hid aw2) B _ _ wc HX2.out.ln HF2.out (HB.out wc hb) HS1.out (by decide)).mono ?_
    rintro e w3 ⟨v, rfl, hd, b6, m6, d6, b7, m7, d7, b8, m8, d8, b9, m9, d9, b10, d10, rfl, h1, h2, h3, h4⟩
    have hx3 := HX2.out.stays hd
    have hb3 := nx hb hd
    obtain ⟨N, hN⟩ : ∃ N, N = w3.setRow s (cN 1 2 (.slice b6 m6 d6) (.slice b7 m7 d7) 2 (.slice b8 m8 d8)) := ⟨_, rfl⟩
    obtain ⟨hxN, hfN, hbN⟩ := box_put (m := ln2) hx3 hsz hb3 h1 h2 h3 h4
    replace hxN : LB B ln2 (.slice b6 m6 d6) (.slice b7 m7 d7) (.slice b8 m8 d8) s N := by rw [hN]; exact hxN
    replace hfN : HL B.lo fr2 (.slice b9 m9 d9) N := by rw [hN]; exact hfN
    replace hbN : Below w.heap.size w N := by rw [hN]; exact hbN
    have HXN := Lib.hid hxN
    have HFN := Lib.hid hfN
    have HN' := Lib.hid hN
    have z3 := hx3.lt
    have p3 := hx3.plain
    clear r0 z0 p0 h1 h2 h3 h4 hx3 hb3 hd hfN
    have r0 := hxN.row
    rw [hN] at r0
    clear hxN hN
    go_wp2_with fail
    rw [← HN'.out]
    refine (ncollect_is (Lib.hid aw3) B _ _ N HXN.out.ln HFN.out (HB.out N hbN) HS2.out (by decide)).mono ?_
    rintro e w4 ⟨e1, k1, g1, e2, k2, g2, e3, k3, g3, e4, k4, g4, rfl, hd, h1, h2, h3, h4⟩
    have hx4 := HXN.out.stays hd
    have hb4 := nx hbN hd
    obtain ⟨M, hM⟩ : ∃ M, M = w4.setRow s (cN 1 2 (.slice e1 k1 g1) (.slice e2 k2 g2) 2 (.slice e3 k3 g3)) := ⟨_, rfl⟩
    obtain ⟨hxM, hfM, hbM⟩ := box_put (m := ln3) hx4 hsz hb4 h1 h2 h3 h4
    replace hxM : LB B ln3 (.slice e1 k1 g1) (.slice e2 k2 g2) (.slice e3 k3 g3) s M := by rw [hM]; exact hxM
    replace hfM : HL B.lo fr3 (.slice e4 k4 g4) M := by rw [hM]; exact hfM
    replace hbM : Below w.heap.size w M := by rw [hM]; exact hbM
    have HXM := Lib.hid hxM
    have HFM := Lib.hid hfM
    have HM' := Lib.hid hM
    have z4 := hx4.lt
    have p4 := hx4.plain
    clear r0 z3 p3 h1 h2 h3 h4 hx4 hb4 hd hfM
    have r0 := hxM.row
    rw [hM] at r0
    clear hxM hM
    go_wp2_with fail
    rw [← HM'.out]
    refine (Ac.get_any fr3 _ 1 2 M HFM.out (by decide)).mono ?_
    rintro e w5 ⟨rfl, hb5⟩
    rw [aw4]
    have hf5 := Lib.hid (hl_stays HFM.out hb5)
    have hx5 := Lib.hid (HXM.out.stays hb5)
    have hbw5 := nx hbM hb5
    clear r0 z4 p4 hb5
    go_wp2_with fail
    refine (Ac.get_any fr3 _ 2 2 w5 hf5.out (by decide)).mono ?_
    rintro e w6 ⟨rfl, hb6⟩
    rw [aw5]
    have hx6 := Lib.hid (hx5.out.stays hb6)
    have hbw6 := nx hbw5 hb6
    have r0 := hx6.out.row
    clear hb6
    go_wp2_with fail
    refine (lright_any B ln3 _ w6 hx6.out.ln (HB.out w6 hbw6) (sm_right awK3.right)).mono ?_
    rintro e w7 ⟨rfl, hb7⟩
    rw [aw6]
    have hbw7 := nx hbw6 hb7
    clear r0 hb7
    go_wp2_with fail
    go_ret
    exact ⟨rfl, hbw7⟩
/-- What a call of step yields. -/
def PostSt (B : Bs) (c : Ln × List Hd × Int) (w : World) (e : Ending) (w' : World) : Prop :=
  ∃ a1 n1 c1 a2 n2 c2 a3 n3 c3 a4 n4 c4, e = .returned (.tuple #[.agg (cN c.1.1 c.1.2.1 (.slice a1 n1 c1) (.slice a2 n2 c2) c.1.2.2.1.2.2 (.slice a3 n3 c3)), .slice a4 n4 c4, .int .i64 c.2.2]) ∧ Below w.heap.size w w' ∧
    LN B c.1 (.agg (cN c.1.1 c.1.2.1 (.slice a1 n1 c1) (.slice a2 n2 c2) c.1.2.2.1.2.2 (.slice a3 n3 c3))) w' ∧ HL B.lo c.2.1 (.slice a4 n4 c4) w'
theorem ret_N3 {fn : Func} {p q r : Tmp} (h : fn.results = #[.cell p 28, .tmp q, .tmp r]) (tmps : Array Value) (w : World) {cs : Array Value} (hs : cs.size = 6) (hr : rowOf w (tmps.getD p undef) = cs) : (results fn tmps).run Tryz.prog w = .ok (.tuple #[.agg cs, tmps.getD q undef, tmps.getD r undef]) w := by
  obtain ⟨b, e, hl⟩ := read_cell (P := Tryz.prog) (T := 28) (n := 5) Tryz.underlying28 rfl (by kernel_rfl) hr hs
  have hp' : tmps[p]?.getD undef = .pointer (some ⟨b, 0, none⟩) := by simpa using e
  simp [results, h, hp', asAddr, hl]
/-- Behind the last store. -/
theorem fin_st {B : Bs} {m : Ln} {fr : List Hd} {x y o f : Value} {s t : Nat} {w X : World} {c0 : Array Value} (hx : LB B m x y o s X) (hg : X.heap[t]? = some (.cells c0 28 (0, 0))) (hf : HL B.lo fr f X) (hb : Below w.heap.size w X) (hw : w.heap.size ≤ t := by omega) (ht : B.lo ≤ t := by omega) :
    Below w.heap.size w (X.setRow t (cN m.1 m.2.1 x y m.2.2.1.2.2 o)) ∧ LN B m (.agg (cN m.1 m.2.1 x y m.2.2.1.2.2 o)) (X.setRow t (cN m.1 m.2.1 x y m.2.2.1.2.2 o)) ∧ HL B.lo fr f (X.setRow t (cN m.1 m.2.1 x y m.2.2.1.2.2 o)) :=
  ⟨below_setRow hb hw _, (LB.put hg ht hx.l1 hx.l2 hx.l3).ln, hl_keep hf (keeps_setRow _ hg (by decide) ht)⟩
set_option maxRecDepth 16000 in
set_option maxHeartbeats 8000000 in
theorem step_any (B : Bs) (l : Ln) (fr : List Hd) (v fv : Value) (o1 o2 o3 o4 o5 : Int) (w : World) (h : LN B l v w) (hf : HL B.lo fr fv w) (hB : B.le w.heap.size) (hs : Sm l) (hm : fr.length ≤ 1000) :
    Calls Tryz.prog 26 #[v, fv, .agg #[.int .i64 o1, .int .i64 o2, .int .i64 o3, .int .i64 o4, .int .i64 o5]] w (PostSt B (stepN l fr (o1, o2, o3, o4, o5)) w) := by
  obtain ⟨a1, n1, c1, a2, n2, c2, a3, n3, c3, rfl, -, -, -, hk1, hk2, hk3⟩ := h.open'
  obtain ⟨lb, lq, ⟨bu, se, nn⟩, od⟩ := l
  simp only at hk1 hk2 hk3
  have hlo := hB.1
  obtain ⟨U1, hU1⟩ : ∃ U, U = w.alloc (.cells (cN lb lq (.slice a1 n1 c1) (.slice a2 n2 c2) nn (.slice a3 n3 c3)) 28) := ⟨_, rfl⟩
  have hz1 : U1.heap.size = w.heap.size + 1 := by rw [hU1]; simp
  have hx1 : LB B (lb, lq, (bu, se, nn), od) (.slice a1 n1 c1) (.slice a2 n2 c2) (.slice a3 n3 c3) w.heap.size U1 := by rw [hU1]; exact LB.made (l := (lb, lq, (bu, se, nn), od)) hk1 hk2 hk3 hlo
  obtain ⟨U2, hU2⟩ : ∃ U, U = U1.alloc (.cells #[.int .i64 o1, .int .i64 o2, .int .i64 o3, .int .i64 o4, .int .i64 o5] 36) := ⟨_, rfl⟩
  have hz2 : U2.heap.size = w.heap.size + 1 + 1 := by rw [hU2]; simp [hz1]
  obtain ⟨U, hU⟩ : ∃ U, U = U2.alloc (.cells (nilN 0 0 0) 28) := ⟨_, rfl⟩
  have hz : U.heap.size = w.heap.size + 1 + 1 + 1 := by rw [hU]; simp [hz2]
  have hbU : Below w.heap.size w U := nx (hU1 ▸ below1 w _) (nx (hU2 ▸ below1 U1 _) (hU ▸ below1 U2 _))
  have HX := Lib.hid (hx1.stays (nx (hU2 ▸ below1 U1 _) (hU ▸ below1 U2 _)))
  have HG := Lib.hid (show U.heap[w.heap.size + 1 + 1]? = some (.cells (nilN 0 0 0) 28 (0, 0)) from by rw [hU, ← hz2]; exact heap_alloc_new U2 _)
  have HzU := Lib.hid hz
  have HbU := Lib.hid hbU
  have HFr := Lib.hid (hl_stays hf hbU)
  have HB := Lib.hid (hB.mono hbU.size)
  have HU := Lib.hid (show U = ((w.alloc (.cells (cN lb lq (.slice a1 n1 c1) (.slice a2 n2 c2) nn (.slice a3 n3 c3)) 28)).alloc (.cells #[.int .i64 o1, .int .i64 o2, .int .i64 o3, .int .i64 o4, .int .i64 o5] 36)).alloc (.cells (nilN 0 0 0) 28) from by rw [hU, hU2, hU1])
  obtain ⟨R, hR⟩ : ∃ R, stepN (lb, lq, (bu, se, nn), od) fr (o1, o2, o3, o4, o5) = R := ⟨_, rfl⟩
  rw [hR]
  obtain ⟨m, fr', er⟩ := R
  have HR0 := Lib.hid hR
  have HS := Lib.hid hs
  clear h hf hB hk1 hk2 hk3 hU1 hU2 hU hz1 hz2 hz hx1 hbU hR hs
  go_enter Tryz.func26, Tryz.ntmps26
  by_cases h2 : o1 = 2
  · have hd2 : (o1 == 2) = true := by simpa using h2
    obtain ⟨R, hR⟩ : ∃ R, cancelN (lb, lq, (bu, se, nn), od) fr o2 o4 = R := ⟨_, rfl⟩
    obtain ⟨m', fr1, q, er'⟩ := R
    have HC := Lib.hid hR
    have hq : (m, fr', er) = (m', fr1, er') := by rw [← HR0.out]; unfold stepN; rw [if_pos h2]; simp only; rw [hR]
    simp only [Prod.mk.injEq] at hq
    obtain ⟨rfl, rfl, rfl⟩ := hq
    clear h2 hR
    go_wp2_with fail
    rw [← HU.out]
    refine (lcancel_any B _ _ fr fv o2 o4 U HX.out.ln HFr.out HB.out HS.out hm).mono ?_
    rw [HC.out]
    rintro e w2 ⟨v, f, rfl, hd, hln, hfl⟩
    simp only at hln hfl
    have hx2 := HX.out.stays hd
    have hb2 := nx HbU.out hd
    obtain ⟨b1, m1, d1, b2, m2, d2, b3, m3, d3, rfl, -, -, -, h1, h2, h3⟩ := hln.open'
    obtain ⟨b4, d4, rfl⟩ := hl_slice hfl
    obtain ⟨X, hX⟩ : ∃ X, X = w2.setRow w.heap.size (cN m.1 m.2.1 (.slice b1 m1 d1) (.slice b2 m2 d2) m.2.2.1.2.2 (.slice b3 m3 d3)) := ⟨_, rfl⟩
    obtain ⟨hxX, hfX, hbX⟩ := box_put (m := m) hx2 (Nat.le_refl _) hb2 h1 h2 h3 hfl
    rw [← hX] at hxX hfX hbX
    have hgX : X.heap[w.heap.size + 1 + 1]? = some (.cells (nilN 0 0 0) 28 (0, 0)) := by rw [hX]; exact (setRow_other w2 w.heap.size (w.heap.size + 1 + 1) _ (by omega)).trans ((hd.block _ (by rw [HzU.out]; omega)).trans HG.out)
    have z0 := hx2.lt
    have p0 := hx2.plain
    have pX : plain 6 X (w.heap.size + 1 + 1) = true := by unfold Rw.plain; rw [hgX]; rfl
    have zX := (Array.getElem?_eq_some_iff.1 hgX).1
    have rX := hxX.row
    have HF := Lib.hid (fin_st hxX hgX hfX hbX)
    have hcs : row (X.setRow (w.heap.size + 1 + 1) (cN m.1 m.2.1 (.slice b1 m1 d1) (.slice b2 m2 d2) m.2.2.1.2.2 (.slice b3 m3 d3))) (w.heap.size + 1 + 1) = cN m.1 m.2.1 (.slice b1 m1 d1) (.slice b2 m2 d2) m.2.2.1.2.2 (.slice b3 m3 d3) := by unfold Rw.row; rw [setRow_heap X _ _ _ _ _ hgX]
    have HCs := Lib.hid hcs
    have HbX := Lib.hid hbX
    rw [hX] at pX zX rX
    rw [hX] at HF HCs
    clear hd hx2 hb2 hln hfl h1 h2 h3 hX hxX hfX hbX hgX hcs
    go_wp2
    refine bodyPost_ret (v := .tuple #[.agg (cN m.1 m.2.1 (.slice b1 m1 d1) (.slice b2 m2 d2) m.2.2.1.2.2 (.slice b3 m3 d3)), .slice b4 fr'.length d4, .int .i64 er]) (ret_N3 Tryz.results26 _ _ rfl ?c1) rfl ?c2
    case c1 => first | exact HCs.out | (simp only [go_sem]; exact HCs.out)
    case c2 => exact ⟨_, _, _, _, _, _, _, _, _, _, _, _, rfl, HF.out⟩
  · have hd2 : (o1 == 2) = false := by simpa using h2
    by_cases h3 : o1 = 3
    · have hd3 : (o1 == 3) = true := by simpa using h3
      obtain ⟨R, hR⟩ : ∃ R, collectN (lb, lq, (bu, se, nn), od) fr o2 = R := ⟨_, rfl⟩
      obtain ⟨m', fr1, q1, q2, er'⟩ := R
      have HC := Lib.hid hR
      have hq : (m, fr', er) = (m', fr1, er') := by rw [← HR0.out]; unfold stepN; rw [if_neg h2, if_pos h3]; simp only; rw [hR]
      simp only [Prod.mk.injEq] at hq
      obtain ⟨rfl, rfl, rfl⟩ := hq
      clear h2 h3 hR
      go_wp2_with fail
      rw [← HU.out]
      refine (lcollect_any B _ _ fr fv o2 U HX.out.ln HFr.out HB.out HS.out hm).mono ?_
      rw [HC.out]
      rintro e w2 ⟨v, f, rfl, hd, hln, hfl⟩
      simp only at hln hfl
      have hx2 := HX.out.stays hd
      have hb2 := nx HbU.out hd
      obtain ⟨b1, m1, d1, b2, m2, d2, b3, m3, d3, rfl, -, -, -, h1, h2, h3⟩ := hln.open'
      obtain ⟨b4, d4, rfl⟩ := hl_slice hfl
      obtain ⟨X, hX⟩ : ∃ X, X = w2.setRow w.heap.size (cN m.1 m.2.1 (.slice b1 m1 d1) (.slice b2 m2 d2) m.2.2.1.2.2 (.slice b3 m3 d3)) := ⟨_, rfl⟩
      obtain ⟨hxX, hfX, hbX⟩ := box_put (m := m) hx2 (Nat.le_refl _) hb2 h1 h2 h3 hfl
      rw [← hX] at hxX hfX hbX
      have hgX : X.heap[w.heap.size + 1 + 1]? = some (.cells (nilN 0 0 0) 28 (0, 0)) := by rw [hX]; exact (setRow_other w2 w.heap.size (w.heap.size + 1 + 1) _ (by omega)).trans ((hd.block _ (by rw [HzU.out]; omega)).trans HG.out)
      have z0 := hx2.lt
      have p0 := hx2.plain
      have pX : plain 6 X (w.heap.size + 1 + 1) = true := by unfold Rw.plain; rw [hgX]; rfl
      have zX := (Array.getElem?_eq_some_iff.1 hgX).1
      have rX := hxX.row
      have HF := Lib.hid (fin_st hxX hgX hfX hbX)
      have hcs : row (X.setRow (w.heap.size + 1 + 1) (cN m.1 m.2.1 (.slice b1 m1 d1) (.slice b2 m2 d2) m.2.2.1.2.2 (.slice b3 m3 d3))) (w.heap.size + 1 + 1) = cN m.1 m.2.1 (.slice b1 m1 d1) (.slice b2 m2 d2) m.2.2.1.2.2 (.slice b3 m3 d3) := by unfold Rw.row; rw [setRow_heap X _ _ _ _ _ hgX]
      have HCs := Lib.hid hcs
      have HbX := Lib.hid hbX
      rw [hX] at pX zX rX
      rw [hX] at HF HCs
      clear hd hx2 hb2 hln hfl h1 h2 h3 hX hxX hfX hbX hgX hcs
      go_wp2
      refine bodyPost_ret (v := .tuple #[.agg (cN m.1 m.2.1 (.slice b1 m1 d1) (.slice b2 m2 d2) m.2.2.1.2.2 (.slice b3 m3 d3)), .slice b4 fr'.length d4, .int .i64 er]) (ret_N3 Tryz.results26 _ _ rfl ?c1) rfl ?c2
      case c1 => first | exact HCs.out | (simp only [go_sem]; exact HCs.out)
      case c2 => exact ⟨_, _, _, _, _, _, _, _, _, _, _, _, rfl, HF.out⟩
    · have hd3 : (o1 == 3) = false := by simpa using h3
      obtain ⟨rs, hrs⟩ : ∃ rs, (o1 != 1) = rs := ⟨_, rfl⟩
      obtain ⟨R, hR⟩ : ∃ R, placeN (lb, lq, (bu, se, nn), od) fr o2 o3 o4 o5 rs = R := ⟨_, rfl⟩
      obtain ⟨m', fr1, q1, q2, er'⟩ := R
      have HC := Lib.hid hR
      have hq : (m, fr', er) = (m', fr1, er') := by rw [← HR0.out]; unfold stepN; rw [if_neg h2, if_neg h3]; simp only; rw [hrs, hR]
      simp only [Prod.mk.injEq] at hq
      obtain ⟨rfl, rfl, rfl⟩ := hq
      clear h2 h3 hR
      go_wp2_with fail
      rw [← HU.out]
      refine (lplace_any B _ _ fr fv o2 o3 o4 o5 rs U HX.out.ln HFr.out HB.out HS.out hm).mono ?_
      rw [HC.out]
      rintro e w2 ⟨v, f, gv, rfl, hd, hln, hfl, hgl⟩
      obtain ⟨gg, gc, rfl⟩ := hgl.len
      simp only at hln hfl
      have hx2 := HX.out.stays hd
      have hb2 := nx HbU.out hd
      obtain ⟨b1, m1, d1, b2, m2, d2, b3, m3, d3, rfl, -, -, -, h1, h2, h3⟩ := hln.open'
      obtain ⟨b4, d4, rfl⟩ := hl_slice hfl
      obtain ⟨X, hX⟩ : ∃ X, X = w2.setRow w.heap.size (cN m.1 m.2.1 (.slice b1 m1 d1) (.slice b2 m2 d2) m.2.2.1.2.2 (.slice b3 m3 d3)) := ⟨_, rfl⟩
      obtain ⟨hxX, hfX, hbX⟩ := box_put (m := m) hx2 (Nat.le_refl _) hb2 h1 h2 h3 hfl
      rw [← hX] at hxX hfX hbX
      have hgX : X.heap[w.heap.size + 1 + 1]? = some (.cells (nilN 0 0 0) 28 (0, 0)) := by rw [hX]; exact (setRow_other w2 w.heap.size (w.heap.size + 1 + 1) _ (by omega)).trans ((hd.block _ (by rw [HzU.out]; omega)).trans HG.out)
      have z0 := hx2.lt
      have p0 := hx2.plain
      have pX : plain 6 X (w.heap.size + 1 + 1) = true := by unfold Rw.plain; rw [hgX]; rfl
      have zX := (Array.getElem?_eq_some_iff.1 hgX).1
      have rX := hxX.row
      have HF := Lib.hid (fin_st hxX hgX hfX hbX)
      have hcs : row (X.setRow (w.heap.size + 1 + 1) (cN m.1 m.2.1 (.slice b1 m1 d1) (.slice b2 m2 d2) m.2.2.1.2.2 (.slice b3 m3 d3))) (w.heap.size + 1 + 1) = cN m.1 m.2.1 (.slice b1 m1 d1) (.slice b2 m2 d2) m.2.2.1.2.2 (.slice b3 m3 d3) := by unfold Rw.row; rw [setRow_heap X _ _ _ _ _ hgX]
      have HCs := Lib.hid hcs
      have HbX := Lib.hid hbX
      rw [hX] at pX zX rX
      rw [hX] at HF HCs
      clear hd hx2 hb2 hln hfl h1 h2 h3 hX hxX hfX hbX hgX hcs
      go_wp2
      refine bodyPost_ret (v := .tuple #[.agg (cN m.1 m.2.1 (.slice b1 m1 d1) (.slice b2 m2 d2) m.2.2.1.2.2 (.slice b3 m3 d3)), .slice b4 fr'.length d4, .int .i64 er]) (ret_N3 Tryz.results26 _ _ rfl ?c1) rfl ?c2
      case c1 => first | exact HCs.out | (simp only [go_sem]; exact HCs.out)
      case c2 => exact ⟨_, _, _, _, _, _, _, _, _, _, _, _, rfl, HF.out⟩
end Go.Proofs.YthecinmekoaphaaGreat.La
namespace Go.Proofs.YthecinmekoaphaaGreat.Le
open Go.RowKit
open Go.ChangeShapes Go.WideShapes Go.Deep
open Go.Proofs.YthecinmekoaphaaGreat.Rw
open Go.Proofs.YthecinmekoaphaaGreat.Da
theorem cellsI : Tryz.prog.cellsOf 3 = 1 := by kernel_rfl
theorem cell_block {w : World} {p : Addr} {v : Value} (h : w.cell? p = some v) : p.block < w.heap.size := by
  apply Nat.lt_of_not_le
  intro hc
  have : w.heap[p.block]? = none := Array.getElem?_eq_none hc
  unfold World.cell? at h
  simp [this] at h
/-- Elements that were read each for itself make a list. -/
theorem is_of {α : Type} [Inhabited α] (e : Enc α) (T : TypeId) (h0 : 0 < e.k) (w : World) (a : Addr) (len c : Nat) (good : α → Prop)
    (h : ∀ i, i < len → ∃ x cs, good x ∧ e.R (Bs.of w.heap.size) x cs w ∧ ∀ j u, cs[j]? = some u → w.cell? ((a.add (i * e.k)).add j) = some u) : ∃ l, Is e T (Bs.of w.heap.size) l (.slice (some a) len c) w ∧ l.length = len ∧ ∀ x ∈ l, good x := by
  classical
  have hg : ∀ i, ∃ x, i < len → good x ∧ ∃ cs, e.R (Bs.of w.heap.size) x cs w ∧ ∀ j u, cs[j]? = some u → w.cell? ((a.add (i * e.k)).add j) = some u := fun i => by
    by_cases hi : i < len
    · obtain ⟨x, cs, h1, h2, h3⟩ := h i hi; exact ⟨x, fun _ => ⟨h1, cs, h2, h3⟩⟩
    · exact ⟨default, fun e => absurd e hi⟩
  let f := fun i => Classical.choose (hg i)
  have hf : ∀ i, i < len → good (f i) ∧ ∃ cs, e.R (Bs.of w.heap.size) (f i) cs w ∧ ∀ j u, cs[j]? = some u → w.cell? ((a.add (i * e.k)).add j) = some u := fun i => Classical.choose_spec (hg i)
  have hlen : ((List.range len).map f).length = len := by simp
  refine ⟨(List.range len).map f, ⟨some a, c, by rw [hlen], ?_⟩, hlen, fun x hx => ?_⟩
  · by_cases e0 : len = 0
    · left; subst e0; exact ⟨rfl, fun e => by cases e⟩
    · right
      obtain ⟨_, cs, hR, hu⟩ := hf 0 (by omega)
      have h1 : 0 < cs.length := by rw [e.len hR]; exact h0
      have h2 := hu 0 _ (List.getElem?_eq_getElem h1)
      have h3 := World.cell?_spot h2
      obtain ⟨b, off, spot⟩ := a
      obtain rfl : spot = none := by simpa [Addr.add] using h3
      have h4 := cell_block h2
      rw [add_eq, add_eq] at h4
      refine ⟨b, off, rfl, h4, .inl h4, fun i x hx => ?_⟩
      have hi : i < len := by
        rcases Nat.lt_or_ge i len with h | h
        · exact h
        · rw [List.getElem?_eq_none (by rw [hlen]; exact h)] at hx; cases hx
      have e2 : f i = x := by simpa [hi] using hx
      subst e2
      obtain ⟨_, ds, hR2, hu2⟩ := hf i hi
      refine ⟨ds, hR2, fun j u hj => ?_⟩
      have := hu2 j u hj
      rwa [add_eq, add_eq] at this
  · obtain ⟨i, hi, rfl⟩ := List.mem_map.1 hx
    exact (hf i (List.mem_range.1 hi)).1
theorem one_of {H : Type} {en : TypeId × Value → H} {w : World} {base n : Nat} {sp : Nat → Bool} {held : Bool} {cs : List Value} {y : DataW H × List MemPlace} (j : Nat)
    (h : DataW.trod en Tryz.prog w base sp held n 3 ((cs.drop j).take 1) = some y) : ∃ x, cs[j]? = some (.int .i64 x) ∧ (Lit.int .i64 x).wf = true := by
  obtain ⟨x, e, _, hw⟩ := DataW.trod_int Tryz.underlying3 h
  refine ⟨x, ?_, hw⟩
  have e2 : ((cs.drop j).take 1)[0]? = some (.int .i64 x) := by rw [e]; rfl
  simpa using e2
theorem fld {H : Type} {en : TypeId × Value → H} {w : World} {base n o k : Nat} {sp : Nat → Bool} {held : Bool} {t : TypeId} {cs : List Value} {y : DataW H × List MemPlace} {f : Field} (ht : f.type = t) (ho : f.offset = o) (hk : Tryz.prog.cellsOf t = k)
    (h : DataW.trod en Tryz.prog w base sp held n f.type ((cs.drop f.offset).take (Tryz.prog.cellsOf f.type)) = some y) : DataW.trod en Tryz.prog w base sp held n t ((cs.drop o).take k) = some y := by
  subst ht ho hk; exact h
def wfI (x : Int) : Prop := (Lit.int .i64 x).wf = true
end Go.Proofs.YthecinmekoaphaaGreat.Le
namespace Go.Proofs.YthecinmekoaphaaGreat.La
open Go.RowKit
open Go.ChangeShapes Go.WideShapes Go.Deep
open Go.Proofs.YthecinmekoaphaaGreat.Rw
open Go.Proofs.YthecinmekoaphaaGreat.Da
open Go.Proofs.YthecinmekoaphaaGreat.Le
open Go.Proofs.YthecinmekoaphaaGreat.Bk
open Go.Proofs.YthecinmekoaphaaGreat.Ac (Hd Pu HL pmay pmay_iff tot total giveE giveL takeE takeL)
def eP : Enc Op5 := Enc.flat 5 (fun o => [.int .i64 o.1, .int .i64 o.2.1, .int .i64 o.2.2.1, .int .i64 o.2.2.2.1, .int .i64 o.2.2.2.2]) (fun _ => rfl) (fun o u hu => by simp at hu; rcases hu with rfl | rfl | rfl | rfl | rfl <;> rfl)
abbrev PL (B : Bs) (l : List Op5) (v : Value) (w : World) : Prop := Is eP 36 B l v w
theorem atP {B : Bs} {l : List Op5} {b off : Nat} {w : World} (h : Lies eP 36 B l b off w) (i : Nat) (hi : i < l.length) :
    w.cell? ⟨b, off + i * 5, none⟩ = some (.int .i64 l[i].1) ∧ w.cell? ⟨b, off + i * 5 + 1, none⟩ = some (.int .i64 l[i].2.1) ∧ w.cell? ⟨b, off + i * 5 + 2, none⟩ = some (.int .i64 l[i].2.2.1) ∧ w.cell? ⟨b, off + i * 5 + 3, none⟩ = some (.int .i64 l[i].2.2.2.1) ∧ w.cell? ⟨b, off + i * 5 + 4, none⟩ = some (.int .i64 l[i].2.2.2.2) := by
  obtain ⟨cs, rfl, hu⟩ := h.at i hi
  exact ⟨hu 0 _ rfl, hu 1 _ rfl, hu 2 _ rfl, hu 3 _ rfl, hu 4 _ rfl⟩
def wfP (o : Op5) : Prop := wfI o.1 ∧ wfI o.2.1 ∧ wfI o.2.2.1 ∧ wfI o.2.2.2.1 ∧ wfI o.2.2.2.2
def wfPs (l : List Op5) : Prop := l.length ≤ maxLen ∧ ∀ o ∈ l, wfP o
theorem cellsP5 : Tryz.prog.cellsOf 36 = 5 := by kernel_rfl
theorem open_ops {H : Type} {en : TypeId × Value → H} {w : World} {base fuel : Nat} {sp : Nat → Bool} {held : Bool} {a : Option Addr} {n c : Nat} {x : DataW H × List MemPlace}
    (h : DataW.trod en Tryz.prog w base sp held fuel 22 (Value.slice a n c).cells.toList = some x) : ∃ l, PL (Bs.of w.heap.size) l (.slice a n c) w ∧ wfPs l := by
  rcases open_slice Tryz.underlying22 h with ⟨hcs, _⟩ | ⟨ad, len, cap, m, n', D, Pl, hcs, _, hl, hcap, hm, _, hi⟩
  · simp [Value.cells] at hcs
    obtain ⟨rfl, rfl, rfl⟩ := hcs
    exact ⟨[], Is.nil _ _ _ _, Nat.zero_le _, by simp⟩
  · simp [Value.cells] at hcs
    obtain ⟨rfl, rfl, rfl⟩ := hcs
    suffices h : ∃ l, PL (Bs.of w.heap.size) l (.slice (some ad) n c) w ∧ l.length = n ∧ ∀ o ∈ l, wfP o by
      obtain ⟨l, h1, h2, h3⟩ := h
      exact ⟨l, h1, by omega, h3⟩
    refine is_of eP 36 (by decide) w ad n c wfP fun i hlt => ?_
    obtain ⟨cs, hc, ht⟩ := hi i (by rw [hm]; split <;> omega)
    rw [cellsP5] at hc
    obtain ⟨_, hcl, hat⟩ := World.cells?_some hc
    obtain ⟨ys, n1, _, _, _, hyl, hf⟩ := DataW.trod_struct Tryz.underlying36 ht
    have g1 := fld (o := 0) (t := 3) rfl rfl cellsI ((hf 0 _ rfl).trans (List.getElem?_eq_getElem (by rw [hyl]; decide)))
    have g2 := fld (o := 1) (t := 3) rfl rfl cellsI ((hf 1 _ rfl).trans (List.getElem?_eq_getElem (by rw [hyl]; decide)))
    have g3 := fld (o := 2) (t := 3) rfl rfl cellsI ((hf 2 _ rfl).trans (List.getElem?_eq_getElem (by rw [hyl]; decide)))
    have g4 := fld (o := 3) (t := 3) rfl rfl cellsI ((hf 3 _ rfl).trans (List.getElem?_eq_getElem (by rw [hyl]; decide)))
    have g5 := fld (o := 4) (t := 3) rfl rfl cellsI ((hf 4 _ rfl).trans (List.getElem?_eq_getElem (by rw [hyl]; decide)))
    obtain ⟨x1, e1, w1⟩ := one_of 0 g1
    obtain ⟨x2, e2, w2⟩ := one_of 1 g2
    obtain ⟨x3, e3, w3⟩ := one_of 2 g3
    obtain ⟨x4, e4, w4⟩ := one_of 3 g4
    obtain ⟨x5, e5, w5⟩ := one_of 4 g5
    refine ⟨(x1, x2, x3, x4, x5), _, ⟨w1, w2, w3, w4, w5⟩, rfl, fun j u hu => ?_⟩
    show w.cell? ((ad.add (i * 5)).add j) = some u
    match j, hu with
    | 0, hu => obtain rfl := Option.some.inj hu; rw [hat 0 (by omega), e1]
    | 1, hu => obtain rfl := Option.some.inj hu; rw [hat 1 (by omega), e2]
    | 2, hu => obtain rfl := Option.some.inj hu; rw [hat 2 (by omega), e3]
    | 3, hu => obtain rfl := Option.some.inj hu; rw [hat 3 (by omega), e4]
    | 4, hu => obtain rfl := Option.some.inj hu; rw [hat 4 (by omega), e5]
    | j + 5, hu => cases hu
set_option maxRecDepth 8000 in
/-- A call that came in by value. -/
theorem open_op {H : Type} {enc : TypeId × Value → H} {W : World} {r : Reach} {base b0 : Nat} {sp : Nat → Bool} {held : Bool} {v : Value} {d : DataW H} {p : List MemPlace}
    (hv : Value.okWide Tryz.prog W r b0 36 v) (h : DataW.Trod enc Tryz.prog W base sp held 36 v d p) : ∃ a b c x y : Int, v = .agg #[.int .i64 a, .int .i64 b, .int .i64 c, .int .i64 x, .int .i64 y] ∧ wfP (a, b, c, x, y) := by
  obtain ⟨cs, rfl, hsz⟩ := okWide_struct Tryz.underlying36 hv
  obtain ⟨fuel, hf⟩ := h
  obtain ⟨ys, n1, _, _, _, hyl, hg⟩ := DataW.trod_struct Tryz.underlying36 hf
  rw [cellsP5] at hsz
  have g1 := fld (o := 0) (t := 3) rfl rfl cellsI ((hg 0 _ rfl).trans (List.getElem?_eq_getElem (by rw [hyl]; decide)))
  have g2 := fld (o := 1) (t := 3) rfl rfl cellsI ((hg 1 _ rfl).trans (List.getElem?_eq_getElem (by rw [hyl]; decide)))
  have g3 := fld (o := 2) (t := 3) rfl rfl cellsI ((hg 2 _ rfl).trans (List.getElem?_eq_getElem (by rw [hyl]; decide)))
  have g4 := fld (o := 3) (t := 3) rfl rfl cellsI ((hg 3 _ rfl).trans (List.getElem?_eq_getElem (by rw [hyl]; decide)))
  have g5 := fld (o := 4) (t := 3) rfl rfl cellsI ((hg 4 _ rfl).trans (List.getElem?_eq_getElem (by rw [hyl]; decide)))
  obtain ⟨x1, e1, w1⟩ := one_of 0 g1
  obtain ⟨x2, e2, w2⟩ := one_of 1 g2
  obtain ⟨x3, e3, w3⟩ := one_of 2 g3
  obtain ⟨x4, e4, w4⟩ := one_of 3 g4
  obtain ⟨x5, e5, w5⟩ := one_of 4 g5
  refine ⟨x1, x2, x3, x4, x5, ?_, w1, w2, w3, w4, w5⟩
  congr 1
  apply Array.ext_getElem?
  intro i
  have hl : (Value.agg cs).cells.toList = cs.toList := rfl
  rw [hl] at e1 e2 e3 e4 e5
  match i with
  | 0 => simpa using e1
  | 1 => simpa using e2
  | 2 => simpa using e3
  | 3 => simpa using e4
  | 4 => simpa using e5
  | i + 5 => rw [Array.getElem?_eq_none (by omega), Array.getElem?_eq_none (by simp)]
end Go.Proofs.YthecinmekoaphaaGreat.La
namespace Go.Proofs.YthecinmekoaphaaGreat.La
open Go.RowKit
open Go.Proofs.YthecinmekoaphaaGreat.Rw
open Go.Proofs.YthecinmekoaphaaGreat.Da
open Go.Proofs.YthecinmekoaphaaGreat.Le
open Go.Proofs.YthecinmekoaphaaGreat.Bk
open Go.Proofs.YthecinmekoaphaaGreat.Ac (Hd Pu HL pmay pmay_iff tot total giveE giveL takeE takeL)
/-- The calls of the statements over a lane of 1 and 2 and n of each asset. -/
noncomputable def ru (n : Int) (ops : List Op5) : Ln × List Hd := runN ln0 (richK n 4) ops
theorem ru_right (n : Int) (ops : List Op5) : RightN (ru n ops).1 ∧ Ac.Right (ru n ops).2 := ⟨(runN_right ops awR0 (rich_right n 4)).1, (runN_right ops awR0 (rich_right n 4)).2.1⟩
theorem ru_take {n : Int} {ops : List Op5} {k : Nat} (h : k < ops.length) : ru n (ops.take (k + 1)) = ((stepN (ru n (ops.take k)).1 (ru n (ops.take k)).2 ops[k]).1, (stepN (ru n (ops.take k)).1 (ru n (ops.take k)).2 ops[k]).2.1) := by
  unfold ru
  rw [Da.take_snoc h, runN_snoc]
theorem ac_len {l : List Hd} (h : Ac.Right l) : l.length ≤ 1000 := by have := Ac.right_512 h; omega
theorem LN.inv {B : Bs} {m : Ln} {i j k : Int} {x y o : Value} {w : World} (h : LN B m (.agg (cN i j x y k o)) w) : LL B m.2.2.1.1 x w ∧ LL B m.2.2.1.2.1 y w ∧ HL B.lo m.2.2.2 o w := by
  obtain ⟨x', y', o', hv, h1, h2, h3⟩ := h
  simp only [Array.mk.injEq, List.cons.injEq, Value.agg.injEq, cN, and_true] at hv
  obtain ⟨-, -, rfl, rfl, -, rfl⟩ := hv
  exact ⟨h1, h2, h3⟩
theorem res_is {B : Bs} {l : Ln} {v : Value} {a r : Int} {w : World} (hr : reserved l a = r) (h : LN B l v w) (hB : B.le w.heap.size) (hs : Sm l) :
    Calls Tryz.prog 20 #[v, .int .i64 a] w fun e w' => e = .returned (.int .i64 r) ∧ Below w.heap.size w w' := by
  rw [← hr]; exact lreserved_any B l v a w h hB hs
theorem owe_is {B : Bs} {l : Ln} {v : Value} {a r : Int} {w : World} (hr : owedN l a = r) (h : LN B l v w) (hB : B.le w.heap.size) (hs : Sm l) :
    Calls Tryz.prog 22 #[v, .int .i64 a] w fun e w' => e = .returned (.int .i64 r) ∧ Below w.heap.size w w' := by
  rw [← hr]; exact lowed_any B l v a w h hB hs
end Go.Proofs.YthecinmekoaphaaGreat.La
