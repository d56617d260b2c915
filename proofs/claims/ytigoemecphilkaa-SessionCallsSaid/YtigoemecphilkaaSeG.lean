/- SessionCalls: walked. -/
import Derived.Test.YtigoemecphilkaaSeD
import Derived.Test.YtigoemecphilkaaSeE
import Derived.Test.YtigoemecphilkaaSeFr
namespace Go.Proofs.Ytigoemecphilkaa.Se
open Go.RowKit
set_option linter.unusedVariables false
open Go.Proofs.Ytigoemecphilkaa.Rw
open Go.Proofs.Ytigoemecphilkaa.Da
theorem noteL_len (l : List Sn) (r : Rp) : (noteL l r).length ≤ l.length + 1 := by
  rcases note_cases l r with ⟨_, k⟩ | ⟨_, e, _⟩ | ⟨_, e, _⟩
  · rw [k.is, put_search _ k.right]
    have := cntS_le (mk r).1 l
    simp only [List.length_append, List.length_take, List.length_drop, List.length_singleton]
    omega
  · rw [e]; omega
  · rw [e]; omega
theorem rLook_is {q : Rp × Int} {c x : Int} {l : List Sn} (H : Hid (look c x l = q)) {B : Bs} {v : Value} {w : World} (h : NL B l v w) (hm : l.length ≤ 1000000) :
    Calls Try.prog 10 #[v, .int .i64 c, .int .i64 x] w fun e w' => e = .returned (lkV q) ∧ Below w.heap.size w w' := by
  rw [← H.out]; exact rLook_any B l v c x w h hm
set_option maxRecDepth 16000 in
set_option maxHeartbeats 8000000 in
theorem walkCalls (l : List Sn) (v : Value) (r1 r2 r3 r4 r5 : Int) (w : World) (h : NL (Bs.of w.heap.size) l v w) (hg : wfSs l ∧ capOk v) (_ : wfR (r1, r2, r3, r4, r5)) :
    Calls Try.prog 3 #[v, .agg #[.int .i64 r1, .int .i64 r2, .int .i64 r3, .int .i64 r4, .int .i64 r5]] w fun e w' => e = .returned (.bool true) ∧ Below w.heap.size w w' := by
  obtain ⟨B, hB'⟩ : ∃ B, B = Bs.of w.heap.size := ⟨_, rfl⟩
  have hB : B.le w.heap.size := by rw [hB']; exact Bs.of_le _
  rw [← hB'] at h
  clear hB'
  have hnc : NC B l v w := ⟨h, hg.2⟩
  obtain ⟨a1, c1, rfl, hcp⟩ := capOk_len h hg.2
  obtain ⟨n, hn⟩ : ∃ n, n = l.length := ⟨_, rfl⟩
  have HH := Lib.hid (show ∀ u, Below w.heap.size w u → NC B l (.slice a1 n c1) u ∧ B.le u.heap.size from fun u hu => ⟨hn ▸ NC.stays hnc hu, hB.mono hu.size⟩)
  rw [← hn]
  have HN := Lib.hid hn
  clear h hg hnc hcp hn hB
  by_cases hlen : 200 < n
  · have hd : decide ((200 : Int) < n) = true := decide_eq_true (by omega)
    go_enter Try.func3, Try.ntmps3
    go_wp2_with fail
    refine (awake_any _).mono ?_
    rintro e w1 ⟨rfl, hb1⟩
    go_wp2
    go_ret
    exact ⟨rfl, nx (below1 _ _) hb1⟩
  have hd : decide ((200 : Int) < n) = false := decide_eq_false (by omega)
  have hm5 : l.length ≤ 100000 := by have := HN.out; omega
  have hm6 : l.length ≤ 1000000 := by omega
  obtain ⟨V, hV⟩ : ∃ V, V = w.alloc (.cells #[.int .i64 r1, .int .i64 r2, .int .i64 r3, .int .i64 r4, .int .i64 r5] 25) := ⟨_, rfl⟩
  have hbV : Below w.heap.size w V := hV ▸ below1 w _
  have hz : w.heap.size < V.heap.size := by rw [hV]; simp
  have hrow : row V w.heap.size = #[.int .i64 r1, .int .i64 r2, .int .i64 r3, .int .i64 r4, .int .i64 r5] := by rw [hV]; simp [go_sem]
  have HK := Lib.hid (show ∀ u, Below V.heap.size V u → row u w.heap.size = #[.int .i64 r1, .int .i64 r2, .int .i64 r3, .int .i64 r4, .int .i64 r5] ∧ u.cell? ⟨w.heap.size, 0, none⟩ = some (.int .i64 r1) ∧ u.cell? ⟨w.heap.size, 1, none⟩ = some (.int .i64 r2) from by
    intro u hu
    have hr : row u w.heap.size = row V w.heap.size := (bcell hu).2.2.1 _ hz
    have hs : (row u w.heap.size).size = 4 + 1 := by rw [hr, hrow]; rfl
    exact ⟨by rw [hr, hrow], by rw [cell_row _ _ _ hs, hr, hrow]; rfl, by rw [cell_row _ _ _ hs, hr, hrow]; rfl⟩)
  have HV := Lib.hid hV
  obtain ⟨ne, hne⟩ : ∃ q, noteE l (r1, r2, r3, r4, r5) = q := ⟨_, rfl⟩
  obtain ⟨⟨⟨y1, y2, y3, y4, y5⟩, y⟩, hlk⟩ : ∃ q, look r1 r2 l = q := ⟨_, rfl⟩
  obtain ⟨rr, hrr⟩ : ∃ q, right l = q := ⟨_, rfl⟩
  obtain ⟨la, hla⟩ : ∃ q, last r1 l = q := ⟨_, rfl⟩
  have HNe := Lib.hid hne
  have HLk := Lib.hid hlk
  have HR := Lib.hid hrr
  have HL := Lib.hid hla
  clear hV hrow hne hlk hrr hla
  go_enter Try.func3, Try.ntmps3
  go_wp2_with fail
  rw [← HV.out]
  refine (note_any B l _ r1 r2 r3 r4 r5 V (HH.out V hbV).1 (HH.out V hbV).2 hm5).mono ?_
  rintro e w1 ⟨v1, rfl, hb1, hn1⟩
  rw [HNe.out]
  have hbw1 := nx hbV hb1
  have HN1 := Lib.hid (show ∀ u, Below w1.heap.size w1 u → NC B (noteL l (r1, r2, r3, r4, r5)) v1 u from fun u hu => NC.stays hn1 hu)
  obtain ⟨k1, k2, k3⟩ := HK.out w1 hb1
  clear hn1
  go_wp2_with fail
  refine (rNote_any B l _ r1 r2 r3 r4 r5 w1 (HH.out w1 hbw1).1.1 (HH.out w1 hbw1).2 hm5).mono ?_
  rintro e w2 ⟨v2, rfl, hb2, hn2⟩
  rw [HNe.out]
  have hbw2 := nx hbw1 hb2
  have hbV2 := nx hb1 hb2
  have HN2 := Lib.hid (show ∀ u, Below w2.heap.size w2 u → NL B (noteL l (r1, r2, r3, r4, r5)) v2 u from fun u hu => Is.stays eS 42 hn2 hu)
  clear hn2 k1 k2 k3
  obtain ⟨k1, k2, k3⟩ := HK.out w2 hbV2
  go_wp2_with fail
  refine (look_is HLk (HH.out w2 hbw2).1.1 hm6).mono ?_
  rintro e w3 ⟨rfl, hb3⟩
  unfold lkV
  simp only
  obtain ⟨X, hX⟩ : ∃ X, X = w3.alloc (.cells #[.int .i64 y1, .int .i64 y2, .int .i64 y3, .int .i64 y4, .int .i64 y5] 25) := ⟨_, rfl⟩
  have hbX : Below w3.heap.size w3 X := hX ▸ below1 w3 _
  have hzX : w3.heap.size < X.heap.size := by rw [hX]; simp
  have hrX : row X w3.heap.size = #[.int .i64 y1, .int .i64 y2, .int .i64 y3, .int .i64 y4, .int .i64 y5] := by rw [hX]; simp [go_sem]
  have HX := Lib.hid hX
  have hb2X := nx hb3 hbX
  have hbwX := nx hbw2 hb2X
  have hbVX := nx hbV2 hb2X
  clear hX k1 k2 k3
  obtain ⟨k1, k2, k3⟩ := HK.out w3 (nx hbV2 hb3)
  have hz3 : w.heap.size < w3.heap.size := by have := (nx hbV2 hb3).size; omega
  go_wp2_with fail
  rw [← HX.out]
  refine (rLook_is HLk (HH.out X hbwX).1.1 hm6).mono ?_
  rintro e w4 ⟨rfl, hb4⟩
  unfold lkV
  simp only
  obtain ⟨Y, hY⟩ : ∃ Y, Y = w4.alloc (.cells #[.int .i64 y1, .int .i64 y2, .int .i64 y3, .int .i64 y4, .int .i64 y5] 25) := ⟨_, rfl⟩
  have hbY : Below w4.heap.size w4 Y := hY ▸ below1 w4 _
  have hzY : w4.heap.size < Y.heap.size := by rw [hY]; simp
  have hrY : row Y w4.heap.size = #[.int .i64 y1, .int .i64 y2, .int .i64 y3, .int .i64 y4, .int .i64 y5] := by rw [hY]; simp [go_sem]
  have HY := Lib.hid hY
  have hXY := nx hb4 hbY
  have hb1Y := nx hb2 (nx hb2X hXY)
  have hb2Y := nx hb2X hXY
  have hbwY := nx hbwX hXY
  have hbVY := nx hbVX hXY
  have hK : ∀ u, Below Y.heap.size Y u → row u w3.heap.size = #[.int .i64 y1, .int .i64 y2, .int .i64 y3, .int .i64 y4, .int .i64 y5] ∧ row u w4.heap.size = #[.int .i64 y1, .int .i64 y2, .int .i64 y3, .int .i64 y4, .int .i64 y5] ∧ u.cell? ⟨w.heap.size, 0, none⟩ = some (.int .i64 r1) := fun u hu =>
    ⟨by rw [(bcell (nx hXY hu)).2.2.1 _ hzX]; exact hrX, by rw [(bcell hu).2.2.1 _ hzY]; exact hrY, (HK.out u (nx hbVY hu)).2.1⟩
  have he : eqR (y1, y2, y3, y4, y5) (y1, y2, y3, y4, y5) = true := eqR_iff.2 rfl
  have hl1 : (noteL l (r1, r2, r3, r4, r5)).length ≤ 1000000 := by have := noteL_len l (r1, r2, r3, r4, r5); omega
  clear hY k1 k2 k3 hz3 hrX hrY
  go_wp2
  rw [← HY.out]
  refine Rg.region (by kernel_rfl) (by kernel_rfl) (by kernel_rfl) (fun _ _ d _ _ h => by cases d <;> exact h) _ rfl ?_
  repeat (first | (refine Rg.Seq.skip (by rfl) ?_; simp only [Act.put, List.setIfInBounds_toArray, List.set_cons_zero, List.set_cons_succ]) | (refine Rg.Seq.pure (v := ?_) (by rfl) ?_ ?_; rotate_left; (intro w_ hS_; have hk_ := hK w_ hS_; go_simp <;> with_reducible rfl); simp only [Act.put, List.setIfInBounds_toArray, List.set_cons_zero, List.set_cons_succ]) | (refine Rg.Seq.call (v := ?_) (f := ?_) (args := ?_) (by rfl) ?_ ?_ ?_; rotate_left 3; (intro w_ hS_; have hk_ := hK w_ hS_; go_simp <;> first | with_reducible rfl | (constructor <;> with_reducible rfl)); (intro w_ hS_; first | (go_at_call 11; refine (same_yes _ _ _ w_ (HN1.out w_ (nx hb1Y hS_)).1 (HN2.out w_ (nx hb2Y hS_)) hl1).mono ?_; rintro e w_ ⟨rfl, hb_⟩; refine ⟨?_, nx hS_ hb_⟩; with_reducible rfl) | (go_at_call 12; refine (right_is HR (HH.out w_ (nx hbwY hS_)).1.1 hm6).mono ?_; rintro e w_ ⟨rfl, hb_⟩; refine ⟨?_, nx hS_ hb_⟩; with_reducible rfl) | (go_at_call 13; refine (rRight_is HR (HH.out w_ (nx hbwY hS_)).1.1 hm6).mono ?_; rintro e w_ ⟨rfl, hb_⟩; refine ⟨?_, nx hS_ hb_⟩; with_reducible rfl) | (go_at_call 14; refine (last_is HL (HH.out w_ (nx hbwY hS_)).1.1 hm6).mono ?_; rintro e w_ ⟨rfl, hb_⟩; refine ⟨?_, nx hS_ hb_⟩; with_reducible rfl) | (go_at_call 15; refine (rLast_is HL (HH.out w_ (nx hbwY hS_)).1.1 hm6).mono ?_; rintro e w_ ⟨rfl, hb_⟩; refine ⟨?_, nx hS_ hb_⟩; with_reducible rfl) | (go_at_call 6; refine (awake_any w_).mono ?_; rintro e w_ ⟨rfl, hb_⟩; refine ⟨?_, nx hS_ hb_⟩; with_reducible rfl)); simp only [Act.put, List.setIfInBounds_toArray, List.set_cons_zero, List.set_cons_succ]))
  intro w5 hb5
  go_wp2
  go_ret
  exact ⟨rfl, nx hbwY hb5⟩
end Go.Proofs.Ytigoemecphilkaa.Se
