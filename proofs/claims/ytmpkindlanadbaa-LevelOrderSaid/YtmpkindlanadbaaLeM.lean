/- The law's order and awake of layer 8. -/
import Derived.Test.YtmpkindlanadbaaLvP
namespace Go.Proofs.Ytmpkindlanadbaa.Le
open Go.RowKit
set_option linter.unusedVariables false
open Go.Proofs.Ytmpkindlanadbaa.Rw
open Go.Proofs.Ytmpkindlanadbaa.Da
set_option maxHeartbeats 1600000 in
theorem order_any (i : Nat) (s p : Int) (hi : i ≤ 1000) (w : World) : Calls Try.prog 24 #[.int .i64 i, .int .i64 s, .int .i64 p] w fun e w' => e = .returned (.agg #[.int .i64 i, .int .i64 ((i % 4 : Nat) : Int), .int .i64 s, .int .i64 p, .int .i64 (1 + ((i % 9 : Nat) : Int))]) ∧ Below w.heap.size w w' := by
  have t4 : Int.tmod (i : Int) 4 = ((i % 4 : Nat) : Int) := by rw [Int.tmod_eq_emod_of_nonneg (by omega)]; omega
  have t9 : Int.tmod (i : Int) 9 = ((i % 9 : Nat) : Int) := by rw [Int.tmod_eq_emod_of_nonneg (by omega)]; omega
  obtain ⟨a, ha⟩ : ∃ a, i % 4 = a := ⟨_, rfl⟩
  obtain ⟨b, hb⟩ : ∃ a, i % 9 = a := ⟨_, rfl⟩
  rw [ha] at t4 ⊢
  rw [hb] at t9 ⊢
  have hb9 : b < 9 := by omega
  have ha4 : a < 4 := by omega
  clear ha hb
  go_enter Try.func24, Try.ntmps24
  go_wp2
  refine bodyPost_ret (v := .agg #[.int .i64 i, .int .i64 a, .int .i64 s, .int .i64 p, .int .i64 (1 + b)]) (ret_O1 Try.results24 _ _ rfl ?c1) rfl ⟨rfl, ?c2⟩
  case c1 => simp [go_sem]
  case c2 => exact below1 _ _
theorem put_is {l : List Lv} {o : Od} (hr : RightL o.2.2.1 l) (hm : omay o o.2.2.1 = true) (hn : fnd (flat l) o.1 = none) : putE l o = 0 ∧ put l o = putL o.2.2.1 o l ∧ RightL o.2.2.1 (putL o.2.2.1 o l) := by
  have : putE l o = 0 := by unfold putE; rw [rightL_iff.2 hr, hm, hn]; rfl
  exact ⟨this, by unfold put; rw [if_pos this], right_put hr hm hn⟩
abbrev oa : Od := (1, 1, 1, 9, 2)
abbrev ob : Od := (2, 2, 1, 10, 3)
abbrev oc : Od := (3, 3, 1, 9, 4)
theorem aw1 : putE [] oa = 0 ∧ put [] oa = [(9, [oa])] ∧ RightL 1 [(9, [oa])] := put_is (o := oa) (right_nil (.inl rfl)) (by decide) (by decide)
theorem aw2 : putE [(9, [oa])] ob = 0 ∧ put [(9, [oa])] ob = [(10, [ob]), (9, [oa])] ∧ RightL 1 [(10, [ob]), (9, [oa])] := put_is (o := ob) aw1.2.2 (by decide) (by decide)
theorem aw3 : putE [(10, [ob]), (9, [oa])] oc = 0 ∧ put [(10, [ob]), (9, [oa])] oc = [(10, [ob]), (9, [oa, oc])] ∧ RightL 1 [(10, [ob]), (9, [oa, oc])] := put_is (o := oc) aw2.2.2 (by decide) (by decide)
theorem aw4 : rightL 1 [(10, [ob]), (9, [oc])] = true := by
  have h1 := put_is (o := oc) (right_nil (.inl rfl)) (by decide) (by decide)
  have h2 := put_is (o := ob) (l := [(9, [oc])]) h1.2.2 (by decide) (by decide)
  exact rightL_iff.2 h2.2.2
theorem awo1 (w : World) : Calls Try.prog 24 #[.int .i64 1, .int .i64 1, .int .i64 9] w fun e w' => e = .returned (.agg #[.int .i64 1, .int .i64 1, .int .i64 1, .int .i64 9, .int .i64 2]) ∧ Below w.heap.size w w' := by
  have := order_any 1 1 9 (by decide) w
  simpa using this
theorem awo2 (w : World) : Calls Try.prog 24 #[.int .i64 2, .int .i64 1, .int .i64 10] w fun e w' => e = .returned (.agg #[.int .i64 2, .int .i64 2, .int .i64 1, .int .i64 10, .int .i64 3]) ∧ Below w.heap.size w w' := by
  have := order_any 2 1 10 (by decide) w
  simpa using this
theorem awo3 (w : World) : Calls Try.prog 24 #[.int .i64 3, .int .i64 1, .int .i64 9] w fun e w' => e = .returned (.agg #[.int .i64 3, .int .i64 3, .int .i64 1, .int .i64 9, .int .i64 4]) ∧ Below w.heap.size w w' := by
  have := order_any 3 1 9 (by decide) w
  simpa using this
theorem awp1 (B : Bs) (x : Value) (w : World) (h : LL B [] x w) (hB : B.le w.heap.size) : Calls Try.prog 8 #[x, .agg #[.int .i64 1, .int .i64 1, .int .i64 1, .int .i64 9, .int .i64 2]] w fun e w' => ∃ t, e = .returned (.tuple #[t, .int .i64 0]) ∧ Below w.heap.size w w' ∧ LL B [(9, [oa])] t w' := by
  have k := put_any B [] x 1 1 1 9 2 w h hB (by decide) (by decide)
  unfold PostP at k
  rw [aw1.1, aw1.2.1] at k
  exact k
theorem awp2 (B : Bs) (x : Value) (w : World) (h : LL B [(9, [oa])] x w) (hB : B.le w.heap.size) : Calls Try.prog 8 #[x, .agg #[.int .i64 2, .int .i64 2, .int .i64 1, .int .i64 10, .int .i64 3]] w fun e w' => ∃ t, e = .returned (.tuple #[t, .int .i64 0]) ∧ Below w.heap.size w w' ∧ LL B [(10, [ob]), (9, [oa])] t w' := by
  have k := put_any B [(9, [oa])] x 2 2 1 10 3 w h hB (by decide) (by decide)
  unfold PostP at k
  rw [aw2.1, aw2.2.1] at k
  exact k
theorem awp3 (B : Bs) (x : Value) (w : World) (h : LL B [(10, [ob]), (9, [oa])] x w) (hB : B.le w.heap.size) : Calls Try.prog 8 #[x, .agg #[.int .i64 3, .int .i64 3, .int .i64 1, .int .i64 9, .int .i64 4]] w fun e w' => ∃ t, e = .returned (.tuple #[t, .int .i64 0]) ∧ Below w.heap.size w w' ∧ LL B [(10, [ob]), (9, [oa, oc])] t w' := by
  have k := put_any B [(10, [ob]), (9, [oa])] x 3 3 1 9 4 w h hB (by decide) (by decide)
  unfold PostP at k
  rw [aw3.1, aw3.2.1] at k
  exact k
theorem awb (B : Bs) (x : Value) (w : World) (h : LL B [(10, [ob]), (9, [oa, oc])] x w) (hB : B.le w.heap.size) : Calls Try.prog 14 #[x] w fun e w' => e = .returned (.tuple #[.agg #[.int .i64 2, .int .i64 2, .int .i64 1, .int .i64 10, .int .i64 3], .bool true]) ∧ Below w.heap.size w w' := best_any B _ x w h hB (by decide) (by decide)
theorem awr (B : Bs) (x : Value) (w : World) (h : LL B [(10, [ob]), (9, [oa, oc])] x w) (hB : B.le w.heap.size) : Calls Try.prog 10 #[x, .int .i64 1] w fun e w' => ∃ t, e = .returned (.tuple #[t, .agg #[.int .i64 1, .int .i64 1, .int .i64 1, .int .i64 9, .int .i64 2], .bool true]) ∧ Below w.heap.size w w' ∧ LL B [(10, [ob]), (9, [oc])] t w' := remove_any B _ x 1 w h hB (by decide) (by decide)
theorem awn (B : Bs) (x : Value) (w : World) (h : LL B [(10, [ob]), (9, [oc])] x w) (hB : B.le w.heap.size) : Calls Try.prog 19 #[x] w fun e w' => e = .returned (.int .i64 2) ∧ Below w.heap.size w w' := count_any B _ x w h hB (by decide) (by decide)
theorem awi (B : Bs) (x : Value) (w : World) (h : LL B [(10, [ob]), (9, [oc])] x w) (hB : B.le w.heap.size) : Calls Try.prog 17 #[x, .int .i64 1] w fun e w' => e = .returned (.bool true) ∧ Below w.heap.size w w' := by
  have k := right_any B _ x 1 w h hB (by decide) (by decide)
  rw [aw4] at k; exact k
theorem awl (B : Bs) (x : Value) (w : World) (h : LL B [(10, [ob]), (9, [oa, oc])] x w) (hB : B.le w.heap.size) : Calls Try.prog 22 #[x] w fun e w' => ∃ b off c, e = .returned (.slice (some ⟨b, off, none⟩) 3 c) ∧ Below w.heap.size w w' ∧ b < w'.heap.size ∧ w'.cell? ⟨b, off + 2 * 5, none⟩ = some (.int .i64 3) := by
  refine (ords_any B _ x w h hB (by decide) (by decide)).mono ?_
  rintro e w' ⟨v, rfl, hb, hl⟩
  rcases hl.cases with ⟨e, _⟩ | ⟨_, b, off, c, rfl, hat⟩
  · cases e
  · exact ⟨b, off, c, rfl, hb, hat.1, (at5 hat 2 (by decide)).1⟩
set_option maxHeartbeats 1600000 in
theorem awake_any (w : World) : Calls Try.prog 7 #[] w fun e w' => e = .returned (.bool true) ∧ Below w.heap.size w w' := by
  obtain ⟨B, hB⟩ : ∃ B, B = Bs.of w.heap.size := ⟨_, rfl⟩
  have hle : B.le w.heap.size := by rw [hB]; exact Bs.of_le _
  have HL := Lib.hid (show ∀ u, Below w.heap.size w u → B.le u.heap.size from fun u hu => hle.mono hu.size)
  clear hB hle
  go_enter Try.func7, Try.ntmps7
  go_wp2_with fail
  refine (awo1 _).mono ?_
  rintro e w1 ⟨rfl, hb1⟩
  go_wp2_with fail
  refine (awp1 B _ w1 (Is.nil _ _ _ _) (HL.out _ hb1)).mono ?_
  rintro e w2 ⟨l1, rfl, hd, hl1⟩
  have hb2 := nx hb1 hd
  clear hb1 hd
  go_wp2_with fail
  refine (awo2 _).mono ?_
  rintro e w3 ⟨rfl, hd⟩
  have hb3 := nx hb2 hd
  go_wp2_with fail
  refine (awp2 B l1 w3 (Is.stays eL 50 hl1 hd) (HL.out _ hb3)).mono ?_
  clear hl1 hd hb2
  rintro e w4 ⟨l2, rfl, hd, hl2⟩
  have hb4 := nx hb3 hd
  clear hb3 hd
  go_wp2_with fail
  refine (awo3 _).mono ?_
  rintro e w5 ⟨rfl, hd⟩
  have hb5 := nx hb4 hd
  go_wp2_with fail
  refine (awp3 B l2 w5 (Is.stays eL 50 hl2 hd) (HL.out _ hb5)).mono ?_
  clear hl2 hd hb4
  rintro e w6 ⟨l3, rfl, hd, hl3⟩
  have hb6 := nx hb5 hd
  clear hb5 hd
  go_wp2_with fail
  refine (awb B l3 w6 hl3 (HL.out _ hb6)).mono ?_
  rintro e w7 ⟨rfl, hd⟩
  have hn7 := nx hd (below1 w7 (.cells #[.int .i64 2, .int .i64 2, .int .i64 1, .int .i64 10, .int .i64 3] 24))
  have HF7 := Lib.hid (show ∀ u, Below (w7.alloc (.cells #[.int .i64 2, .int .i64 2, .int .i64 1, .int .i64 10, .int .i64 3] 24)).heap.size (w7.alloc (.cells #[.int .i64 2, .int .i64 2, .int .i64 1, .int .i64 10, .int .i64 3] 24)) u → (u.cell? ⟨w7.heap.size, 0, none⟩ = some (.int .i64 2) ∧ w7.heap.size < u.heap.size) ∧ LL B [(10, [ob]), (9, [oa, oc])] l3 u ∧ Below w.heap.size w u from fun u hu => ⟨⟨by rw [hu.cell (p := ⟨w7.heap.size, 0, none⟩) (by simp)]; simp [go_sem], by have := hu.size; simp at this; omega⟩, Is.stays eL 50 hl3 (nx hn7 hu), nx (nx hb6 hn7) hu⟩)
  clear hd hn7 hl3 hb6
  obtain ⟨_, hl, hb⟩ := HF7.out _ (Below.refl _ _)
  go_wp2_with fail
  refine (awr B l3 _ hl (HL.out _ hb)).mono ?_
  rintro e w8 ⟨l4, rfl, hd, hl4⟩
  have hn8 := nx hd (below1 w8 (.cells #[.int .i64 1, .int .i64 1, .int .i64 1, .int .i64 9, .int .i64 2] 24))
  have HF8 := Lib.hid (show ∀ u, Below (w8.alloc (.cells #[.int .i64 1, .int .i64 1, .int .i64 1, .int .i64 9, .int .i64 2] 24)).heap.size (w8.alloc (.cells #[.int .i64 1, .int .i64 1, .int .i64 1, .int .i64 9, .int .i64 2] 24)) u → (u.cell? ⟨w8.heap.size, 0, none⟩ = some (.int .i64 1) ∧ w8.heap.size < u.heap.size) ∧ LL B [(10, [ob]), (9, [oc])] l4 u ∧ _ from fun u hu => ⟨⟨by rw [hu.cell (p := ⟨w8.heap.size, 0, none⟩) (by simp)]; simp [go_sem], by have := hu.size; simp at this; omega⟩, Is.stays eL 50 hl4 (nx (below1 _ _) hu), HF7.out u (nx hn8 hu)⟩)
  clear hd hn8 hl4 hl hb HF7
  obtain ⟨⟨a0, a1⟩, hl, ⟨b0, b1⟩, hl3, hb⟩ := HF8.out _ (Below.refl _ _)
  go_wp2_with fail
  refine (awn B l4 _ hl (HL.out _ hb)).mono ?_
  rintro e w9 ⟨rfl, hc9⟩
  clear a0 a1 b0 b1 hl hl3 hb
  obtain ⟨_, hl, _, hl3, hb⟩ := HF8.out _ hc9
  go_wp2_with fail
  refine (awi B l4 _ hl (HL.out _ hb)).mono ?_
  rintro e x1 ⟨rfl, hd⟩
  have hc1 := nx hc9 hd
  clear hd hc9 hl hl3 hb
  obtain ⟨_, hl, _, hl3, hb⟩ := HF8.out _ hc1
  go_wp2_with fail
  refine (awl B l3 _ hl3 (HL.out _ hb)).mono ?_
  rintro e x2 ⟨bb, off, c, rfl, hd, hz, hcell⟩
  have hb2 := nx hb hd
  clear hd hl hl3 hb
  go_wp2
  go_ret
  exact ⟨rfl, hb2⟩
end Go.Proofs.Ytmpkindlanadbaa.Le
