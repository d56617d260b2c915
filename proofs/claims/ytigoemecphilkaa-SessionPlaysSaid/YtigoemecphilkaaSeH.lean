/- SessionKeeps: walked. -/
import Derived.Test.YtigoemecphilkaaSeG
namespace Go.Proofs.Ytigoemecphilkaa.Se
open Go.RowKit
set_option linter.unusedVariables false
open Go.Proofs.Ytigoemecphilkaa.Rw
open Go.Proofs.Ytigoemecphilkaa.Da
/-- What the statement says of a reply that was noted. -/
theorem kept {l : List Sn} {r1 r2 r3 r4 r5 : Int} (h : noteE l (r1, r2, r3, r4, r5) = 0) : look r1 r2 (noteL l (r1, r2, r3, r4, r5)) = ((r1, r2, r3, r4, r5), 0) ∧ noteE (noteL l (r1, r2, r3, r4, r5)) (r1, r2, r3, r4, r5) = 13 ∧ noteL (noteL l (r1, r2, r3, r4, r5)) (r1, r2, r3, r4, r5) = noteL l (r1, r2, r3, r4, r5) ∧ right (noteL l (r1, r2, r3, r4, r5)) = true ∧ 1 ≤ r2 ∧ r2 ≤ 1125899906842624
    ∧ look r1 (r2 - 1) (noteL l (r1, r2, r3, r4, r5)) = (z5, 13) ∧ ∀ o, o ≠ r1 → last o (noteL l (r1, r2, r3, r4, r5)) = last o l := by
  rcases note_cases l (r1, r2, r3, r4, r5) with ⟨_, k⟩ | ⟨e, _⟩ | ⟨e, _⟩
  · have ht := note_twice h
    have hk := k.is
    have ho := okS_iff.1 k.ok
    refine ⟨?_, ht.1, ht.2, right_iff.2 k.right', ho.2.2.1, ho.2.2.2.1, ?_, fun o ho2 => ?_⟩
    · rw [hk, look_put k.right, if_pos (show (mk (r1, r2, r3, r4, r5)).1 = r1 from rfl), if_neg (show ¬ (mk (r1, r2, r3, r4, r5)).2.1 < r2 from by show ¬ r2 < r2; omega), if_neg (show ¬ r2 < (mk (r1, r2, r3, r4, r5)).2.1 from by show ¬ r2 < r2; omega)]; rfl
    · rw [hk, look_put k.right, if_pos (show (mk (r1, r2, r3, r4, r5)).1 = r1 from rfl), if_neg (show ¬ (mk (r1, r2, r3, r4, r5)).2.1 < r2 - 1 from by show ¬ r2 < r2 - 1; omega), if_pos (show r2 - 1 < (mk (r1, r2, r3, r4, r5)).2.1 from by show r2 - 1 < r2; omega)]
    · rw [hk, last_put k.right, if_neg (show ¬ (mk (r1, r2, r3, r4, r5)).1 = o from fun e => ho2 e.symm)]
  · rw [e] at h; cases h
  · rw [e] at h; cases h
set_option maxRecDepth 16000 in
set_option maxHeartbeats 16000000 in
theorem walkKeeps (l : List Sn) (v : Value) (r1 r2 r3 r4 r5 o : Int) (w : World) (h : NL (Bs.of w.heap.size) l v w) (hg : wfSs l ∧ capOk v) (_ : wfR (r1, r2, r3, r4, r5)) {P : Prop} (_ : P) :
    Calls Try.prog 4 #[v, .agg #[.int .i64 r1, .int .i64 r2, .int .i64 r3, .int .i64 r4, .int .i64 r5], .int .i64 o] w fun e w' => e = .returned (.bool true) ∧ Below w.heap.size w w' := by
  obtain ⟨B, hB'⟩ : ∃ B, B = Bs.of w.heap.size := ⟨_, rfl⟩
  have hB : B.le w.heap.size := by rw [hB']; exact Bs.of_le _
  rw [← hB'] at h
  clear hB'
  have hnc : NC B l v w := ⟨h, hg.2⟩
  obtain ⟨a1, c1, rfl, hcp⟩ := capOk_len h hg.2
  obtain ⟨n, hn⟩ : ∃ n, n = l.length := ⟨_, rfl⟩
  have HH := Lib.hid (show ∀ u, Below w.heap.size w u → NC B l (.slice a1 n c1) u ∧ B.le u.heap.size from fun u hu => ⟨hn ▸ NC.stays hnc hu, hB.mono hu.size⟩)
  rw [← hn]
  have HN := Lib.hid hn
  clear h hg hnc hcp hn hB
  obtain ⟨V, hV⟩ : ∃ V, V = w.alloc (.cells #[.int .i64 r1, .int .i64 r2, .int .i64 r3, .int .i64 r4, .int .i64 r5] 25) := ⟨_, rfl⟩
  have hbV : Below w.heap.size w V := hV ▸ below1 w _
  have hz : w.heap.size < V.heap.size := by rw [hV]; simp
  have hrow : row V w.heap.size = #[.int .i64 r1, .int .i64 r2, .int .i64 r3, .int .i64 r4, .int .i64 r5] := by rw [hV]; simp [go_sem]
  have HK := Lib.hid (show ∀ u, Below V.heap.size V u → row u w.heap.size = #[.int .i64 r1, .int .i64 r2, .int .i64 r3, .int .i64 r4, .int .i64 r5] ∧ u.cell? ⟨w.heap.size, 0, none⟩ = some (.int .i64 r1) ∧ u.cell? ⟨w.heap.size, 1, none⟩ = some (.int .i64 r2) from by
    intro u hu
    have hr : row u w.heap.size = row V w.heap.size := (bcell hu).2.2.1 _ hz
    have hs : (row u w.heap.size).size = 4 + 1 := by rw [hr, hrow]; rfl
    exact ⟨by rw [hr, hrow], by rw [cell_row _ _ _ hs, hr, hrow]; rfl, by rw [cell_row _ _ _ hs, hr, hrow]; rfl⟩)
  have HV := Lib.hid hV
  clear hrow
  by_cases hlen : 200 < n
  · have hd : decide ((200 : Int) < n) = true := decide_eq_true (by omega)
    go_enter Try.func4, Try.ntmps4
    go_wp2_with fail
    rw [← hV]
    refine (awake_any _).mono ?_
    rintro e w1 ⟨rfl, hb1⟩
    go_wp2
    go_ret
    exact ⟨rfl, nx hbV hb1⟩
  have hd : decide ((200 : Int) < n) = false := decide_eq_false (by omega)
  have hm5 : l.length ≤ 100000 := by have := HN.out; omega
  have hm6 : l.length ≤ 1000000 := by omega
  obtain ⟨rr, hrr⟩ : ∃ q, right l = q := ⟨_, rfl⟩
  have HR := Lib.hid hrr
  clear hrr hV
  cases rr
  · go_enter Try.func4, Try.ntmps4
    go_wp2_with fail
    rw [← HV.out]
    refine (right_is HR (HH.out V hbV).1.1 hm6).mono ?_
    rintro e w1 ⟨rfl, hb1⟩
    go_wp2_with fail
    refine (awake_any _).mono ?_
    rintro e w2 ⟨rfl, hb2⟩
    go_wp2
    go_ret
    exact ⟨rfl, nx hbV (nx hb1 hb2)⟩
  obtain ⟨la, hla⟩ : ∃ q, last r1 l = q := ⟨_, rfl⟩
  have HL := Lib.hid hla
  rcases note_cases l (r1, r2, r3, r4, r5) with ⟨hE, _⟩ | ⟨hE, hEL, _⟩ | ⟨hE, hEL, _, _, hle⟩
  · have HNe := Lib.hid (show noteE l (r1, r2, r3, r4, r5) = 0 ∧ True from ⟨hE, trivial⟩)
    obtain ⟨q1, q2, q3, q4, q5, q6, q7, q8⟩ := kept hE
    have hml := noteL_len l (r1, r2, r3, r4, r5)
    obtain ⟨m, hm⟩ : ∃ m, noteL l (r1, r2, r3, r4, r5) = m := ⟨_, rfl⟩
    rw [hm] at q1 q2 q3 q4 q7 q8 hml
    have H1 := Lib.hid q1
    have H2 := Lib.hid (show noteE m (r1, r2, r3, r4, r5) = 13 ∧ noteL m (r1, r2, r3, r4, r5) = m from ⟨q2, q3⟩)
    have H4 := Lib.hid q4
    have H7 := Lib.hid q7
    have H8 := Lib.hid q8
    have HM := Lib.hid hm
    have hm9 : m.length ≤ 100000 := by have := HN.out; omega
    have hm8 : m.length ≤ 1000000 := by omega
    have he : eqR (r1, r2, r3, r4, r5) (r1, r2, r3, r4, r5) = true := eqR_iff.2 rfl
    clear hla hE q1 q2 q3 q4 q7 q8 hml hm
    go_enter Try.func4, Try.ntmps4
    go_wp2_with fail
    rw [← HV.out]
    refine (right_is HR (HH.out V hbV).1.1 hm6).mono ?_
    rintro e w1 ⟨rfl, hb1⟩
    obtain ⟨k1, k2, k3⟩ := HK.out w1 hb1
    go_wp2_with fail
    refine (note_any B l _ r1 r2 r3 r4 r5 w1 (HH.out w1 (nx hbV hb1)).1 (HH.out w1 (nx hbV hb1)).2 hm5).mono ?_
    rintro e w2 ⟨v1, rfl, hb2, hn1⟩
    have hbV2 := nx hb1 hb2
    have hbw2 := nx hbV hbV2
    rw [HNe.out.1]
    have HN1 := Lib.hid (show ∀ u, Below w2.heap.size w2 u → NC B (noteL l (r1, r2, r3, r4, r5)) v1 u from fun u hu => NC.stays hn1 hu)
    clear hn1 k1 k2 k3
    rw [HM.out] at HN1
    obtain ⟨k1, k2, k3⟩ := HK.out w2 hbV2
    go_wp2_with fail
    refine (look_is H1 (HN1.out w2 (Below.refl _ _)).1 hm8).mono ?_
    rintro e w3 ⟨rfl, hb3⟩
    unfold lkV
    simp only
    clear k1 k2 k3
    obtain ⟨X, hX⟩ : ∃ X, X = w3.alloc (.cells #[.int .i64 r1, .int .i64 r2, .int .i64 r3, .int .i64 r4, .int .i64 r5] 25) := ⟨_, rfl⟩
    have hbX : Below w3.heap.size w3 X := hX ▸ below1 w3 _
    have hzX : w3.heap.size < X.heap.size := by rw [hX]; simp
    have hrX : row X w3.heap.size = #[.int .i64 r1, .int .i64 r2, .int .i64 r3, .int .i64 r4, .int .i64 r5] := by rw [hX]; simp [go_sem]
    have HX := Lib.hid hX
    have hb2X := nx hb3 hbX
    have hbVX := nx hbV2 hb2X
    have hbwX := nx hbV hbVX
    obtain ⟨k1, k2, k3⟩ := HK.out w3 (nx hbV2 hb3)
    have hz3 : w.heap.size < w3.heap.size := by have := (nx hbV2 hb3).size; omega
    clear hX
    go_wp2_with fail
    rw [← HX.out]
    refine (note_any B m _ r1 r2 r3 r4 r5 X (HN1.out X hb2X) (HH.out X hbwX).2 hm9).mono ?_
    rintro e w4 ⟨v2, rfl, hb4, hn2⟩
    rw [H2.out.1]
    rw [H2.out.2] at hn2
    have HN2 := Lib.hid (show ∀ u, Below w4.heap.size w4 u → NC B m v2 u from fun u hu => NC.stays hn2 hu)
    have hb24 := nx hb2X hb4
    have hbV4 := nx hbVX hb4
    clear hn2 k1 k2 k3
    obtain ⟨k1, k2, k3⟩ := HK.out w4 hbV4
    have hx4 : row w4 w3.heap.size = #[.int .i64 r1, .int .i64 r2, .int .i64 r3, .int .i64 r4, .int .i64 r5] := by rw [(bcell hb4).2.2.1 _ hzX]; exact hrX
    clear hrX hz3
    go_wp2_with fail
    refine (same_yes m _ _ w4 (HN2.out w4 (Below.refl _ _)).1 (HN1.out w4 hb24).1 hm8).mono ?_
    rintro e w5 ⟨rfl, hb5⟩
    clear k1 k2 k3 hx4
    go_wp2_with fail
    refine (right_is H4 (HN1.out w5 (nx hb24 hb5)).1 hm8).mono ?_
    rintro e w6 ⟨rfl, hb6⟩
    have hb26 := nx hb24 (nx hb5 hb6)
    have hbV6 := nx hbV4 (nx hb5 hb6)
    obtain ⟨k1, k2, k3⟩ := HK.out w6 hbV6
    have hws : w.heap.size < w6.heap.size := by have := hbV6.size; omega
    clear hb24 hbV4 hb5 hb6 hb2X hbVX hbwX hb4 hbX hb3
    by_cases hr2 : 1 < r2
    · have d1 : decide (1 < r2) = true := decide_eq_true hr2
      have d2 : wrap64 (r2 - 1) = r2 - 1 := IntWalk.wrap64_in _ (by omega)
      by_cases ho : o = r1
      · have d3 : (o == r1) = true := by simpa using ho
        clear ho hr2
        go_wp2_with fail
        refine (look_is H7 (HN1.out w6 hb26).1 hm8).mono ?_
        rintro e w7 ⟨rfl, hb7⟩
        obtain ⟨s1, s2, s3⟩ := HK.out w7 (nx hbV6 hb7)
        have hws7 : w.heap.size < w7.heap.size := by have := hb7.size; omega
        unfold lkV z5
        clear k1 k2 k3
        go_wp2_with fail
        refine (awake_any _).mono ?_
        rintro e w8 ⟨rfl, hb8⟩
        go_wp2
        go_ret
        exact ⟨rfl, nx hbV (nx hbV6 (nx hb7 (nx (below1 _ _) hb8)))⟩
      · have d3 : (o == r1) = false := by simpa using ho
        obtain ⟨lo, hlo⟩ : ∃ lo, last o l = lo := ⟨_, rfl⟩
        have HO1 := Lib.hid hlo
        have HO2 := Lib.hid (show last o m = lo by rw [H8.out o ho, hlo])
        clear ho hr2 hlo
        go_wp2_with fail
        refine (look_is H7 (HN1.out w6 hb26).1 hm8).mono ?_
        rintro e w7 ⟨rfl, hb7⟩
        obtain ⟨s1, s2, s3⟩ := HK.out w7 (nx hbV6 hb7)
        have hws7 : w.heap.size < w7.heap.size := by have := hb7.size; omega
        unfold lkV z5
        clear k1 k2 k3
        have hb8 := nx hb7 (below1 w7 (.cells #[.int .i64 0, .int .i64 0, .int .i64 0, .int .i64 0, .int .i64 0] 25))
        go_wp2_with fail
        refine (last_is HO2 (HN1.out _ (nx hb26 hb8)).1 hm8).mono ?_
        rintro e w9 ⟨rfl, hb9⟩
        have hb10 := nx hbV (nx hbV6 (nx hb8 hb9))
        go_wp2_with fail
        refine (last_is HO1 (HH.out _ hb10).1.1 hm6).mono ?_
        rintro e w11 ⟨rfl, hb11⟩
        go_wp2_with fail
        refine (awake_any _).mono ?_
        rintro e w12 ⟨rfl, hb12⟩
        go_wp2
        go_ret
        exact ⟨rfl, nx hb10 (nx hb11 hb12)⟩
    · have d1 : decide (1 < r2) = false := decide_eq_false hr2
      by_cases ho : o = r1
      · have d3 : (o == r1) = true := by simpa using ho
        clear ho hr2
        go_wp2_with fail
        refine (awake_any _).mono ?_
        rintro e w8 ⟨rfl, hb8⟩
        go_wp2
        go_ret
        exact ⟨rfl, nx hbV (nx hbV6 hb8)⟩
      · have d3 : (o == r1) = false := by simpa using ho
        obtain ⟨lo, hlo⟩ : ∃ lo, last o l = lo := ⟨_, rfl⟩
        have HO1 := Lib.hid hlo
        have HO2 := Lib.hid (show last o m = lo by rw [H8.out o ho, hlo])
        clear ho hr2 hlo
        go_wp2_with fail
        refine (last_is HO2 (HN1.out _ hb26).1 hm8).mono ?_
        rintro e w9 ⟨rfl, hb9⟩
        have hb10 := nx hbV (nx hbV6 hb9)
        go_wp2_with fail
        refine (last_is HO1 (HH.out _ hb10).1.1 hm6).mono ?_
        rintro e w11 ⟨rfl, hb11⟩
        go_wp2_with fail
        refine (awake_any _).mono ?_
        rintro e w12 ⟨rfl, hb12⟩
        go_wp2
        go_ret
        exact ⟨rfl, nx hb10 (nx hb11 hb12)⟩
  · have HNe := Lib.hid (show noteE l (r1, r2, r3, r4, r5) = 1 ∧ noteL l (r1, r2, r3, r4, r5) = l from ⟨hE, hEL⟩)
    clear hla hE hEL
    go_enter Try.func4, Try.ntmps4
    go_wp2_with fail
    rw [← HV.out]
    refine (right_is HR (HH.out V hbV).1.1 hm6).mono ?_
    rintro e w1 ⟨rfl, hb1⟩
    obtain ⟨k1, k2, k3⟩ := HK.out w1 hb1
    go_wp2_with fail
    refine (note_any B l _ r1 r2 r3 r4 r5 w1 (HH.out w1 (nx hbV hb1)).1 (HH.out w1 (nx hbV hb1)).2 hm5).mono ?_
    rintro e w2 ⟨v1, rfl, hb2, hn1⟩
    have hbV2 := nx hb1 hb2
    have hbw2 := nx hbV hbV2
    rw [HNe.out.1]
    have HN1 := Lib.hid (show ∀ u, Below w2.heap.size w2 u → NC B (noteL l (r1, r2, r3, r4, r5)) v1 u from fun u hu => NC.stays hn1 hu)
    clear hn1 k1 k2 k3
    have hK := fun u (hu : Below w2.heap.size w2 u) => HK.out u (nx hbV2 hu)
    go_wp2
    refine Rg.region (by kernel_rfl) (by kernel_rfl) (by kernel_rfl) (fun _ _ d _ _ h => by cases d <;> exact h) _ rfl ?_
    repeat (first | (refine Rg.Seq.skip (by rfl) ?_; simp only [Act.put, List.setIfInBounds_toArray, List.set_cons_zero, List.set_cons_succ]) | (refine Rg.Seq.pure (v := ?_) (by rfl) ?_ ?_; rotate_left; (intro w_ hS_; have hk_ := hK w_ hS_; go_simp <;> with_reducible rfl); simp only [Act.put, List.setIfInBounds_toArray, List.set_cons_zero, List.set_cons_succ]) | (refine Rg.Seq.call (v := ?_) (f := ?_) (args := ?_) (by rfl) ?_ ?_ ?_; rotate_left 3; (intro w_ hS_; have hk_ := hK w_ hS_; go_simp <;> first | with_reducible rfl | (constructor <;> with_reducible rfl)); (intro w_ hS_; first | (go_at_call 11; refine (same_yes _ _ _ w_ (HNe.out.2 ▸ (HN1.out w_ hS_).1) (HH.out w_ (nx hbw2 hS_)).1.1 hm6).mono ?_; rintro e w_ ⟨rfl, hb_⟩; refine ⟨?_, nx hS_ hb_⟩; with_reducible rfl) | (go_at_call 14; refine (last_is HL (HH.out w_ (nx hbw2 hS_)).1.1 hm6).mono ?_; rintro e w_ ⟨rfl, hb_⟩; refine ⟨?_, nx hS_ hb_⟩; with_reducible rfl) | (go_at_call 6; refine (awake_any w_).mono ?_; rintro e w_ ⟨rfl, hb_⟩; refine ⟨?_, nx hS_ hb_⟩; with_reducible rfl)); simp only [Act.put, List.setIfInBounds_toArray, List.set_cons_zero, List.set_cons_succ]))
    intro w3 hb3
    go_wp2
    go_ret
    exact ⟨rfl, nx hbw2 hb3⟩
  · have HNe := Lib.hid (show noteE l (r1, r2, r3, r4, r5) = 13 ∧ noteL l (r1, r2, r3, r4, r5) = l from ⟨hE, hEL⟩)
    have hle2 : r2 ≤ la := by rw [← hla]; exact hle
    have hle3 : decide (r2 ≤ la) = true := decide_eq_true hle2
    clear hla hE hEL hle hle2
    go_enter Try.func4, Try.ntmps4
    go_wp2_with fail
    rw [← HV.out]
    refine (right_is HR (HH.out V hbV).1.1 hm6).mono ?_
    rintro e w1 ⟨rfl, hb1⟩
    obtain ⟨k1, k2, k3⟩ := HK.out w1 hb1
    go_wp2_with fail
    refine (note_any B l _ r1 r2 r3 r4 r5 w1 (HH.out w1 (nx hbV hb1)).1 (HH.out w1 (nx hbV hb1)).2 hm5).mono ?_
    rintro e w2 ⟨v1, rfl, hb2, hn1⟩
    have hbV2 := nx hb1 hb2
    have hbw2 := nx hbV hbV2
    rw [HNe.out.1]
    have HN1 := Lib.hid (show ∀ u, Below w2.heap.size w2 u → NC B (noteL l (r1, r2, r3, r4, r5)) v1 u from fun u hu => NC.stays hn1 hu)
    clear hn1 k1 k2 k3
    have hK := fun u (hu : Below w2.heap.size w2 u) => HK.out u (nx hbV2 hu)
    go_wp2
    refine Rg.region (by kernel_rfl) (by kernel_rfl) (by kernel_rfl) (fun _ _ d _ _ h => by cases d <;> exact h) _ rfl ?_
    repeat (first | (refine Rg.Seq.skip (by rfl) ?_; simp only [Act.put, List.setIfInBounds_toArray, List.set_cons_zero, List.set_cons_succ]) | (refine Rg.Seq.pure (v := ?_) (by rfl) ?_ ?_; rotate_left; (intro w_ hS_; have hk_ := hK w_ hS_; go_simp <;> with_reducible rfl); simp only [Act.put, List.setIfInBounds_toArray, List.set_cons_zero, List.set_cons_succ]) | (refine Rg.Seq.call (v := ?_) (f := ?_) (args := ?_) (by rfl) ?_ ?_ ?_; rotate_left 3; (intro w_ hS_; have hk_ := hK w_ hS_; go_simp <;> first | with_reducible rfl | (constructor <;> with_reducible rfl)); (intro w_ hS_; first | (go_at_call 11; refine (same_yes _ _ _ w_ (HNe.out.2 ▸ (HN1.out w_ hS_).1) (HH.out w_ (nx hbw2 hS_)).1.1 hm6).mono ?_; rintro e w_ ⟨rfl, hb_⟩; refine ⟨?_, nx hS_ hb_⟩; with_reducible rfl) | (go_at_call 14; refine (last_is HL (HH.out w_ (nx hbw2 hS_)).1.1 hm6).mono ?_; rintro e w_ ⟨rfl, hb_⟩; refine ⟨?_, nx hS_ hb_⟩; with_reducible rfl) | (go_at_call 6; refine (awake_any w_).mono ?_; rintro e w_ ⟨rfl, hb_⟩; refine ⟨?_, nx hS_ hb_⟩; with_reducible rfl)); simp only [Act.put, List.setIfInBounds_toArray, List.set_cons_zero, List.set_cons_succ]))
    intro w3 hb3
    go_wp2
    go_ret
    exact ⟨rfl, nx hbw2 hb3⟩
end Go.Proofs.Ytigoemecphilkaa.Se
