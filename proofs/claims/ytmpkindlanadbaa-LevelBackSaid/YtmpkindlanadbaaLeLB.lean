/- LevelBack. -/
import Derived.Test.YtmpkindlanadbaaLeLC
import Derived.Test.YtmpkindlanadbaaLePu
namespace Go.Proofs.Ytmpkindlanadbaa.Le
open Go.RowKit
set_option linter.unusedVariables false
open Go.Proofs.Ytmpkindlanadbaa.Rw
open Go.Proofs.Ytmpkindlanadbaa.Da
theorem newbox5 {w : World} (a b c d e : Int) : ∀ u, Below (w.alloc (.cells #[.int .i64 a, .int .i64 b, .int .i64 c, .int .i64 d, .int .i64 e] 24)).heap.size (w.alloc (.cells #[.int .i64 a, .int .i64 b, .int .i64 c, .int .i64 d, .int .i64 e] 24)) u → row u w.heap.size = #[.int .i64 a, .int .i64 b, .int .i64 c, .int .i64 d, .int .i64 e] ∧ w.heap.size < u.heap.size :=
  newbox (r := some (a, b, c, d, e))
@[go_sem] theorem eqO_self (o : Od) : eqO o o = true := by simp [eqO]
theorem cell0 {B : Bs} {b1 b2 b3 b4 b5 : Int} {tl : List Od} {bb off n c : Nat} {u : World} (h : OL B ((b1, b2, b3, b4, b5) :: tl) (.slice (some ⟨bb, off, none⟩) n c) u) :
    u.cell? ⟨bb, off, none⟩ = some (.int .i64 b1) ∧ u.cell? ⟨bb, off + 1, none⟩ = some (.int .i64 b2) ∧ u.cell? ⟨bb, off + 2, none⟩ = some (.int .i64 b3) ∧ u.cell? ⟨bb, off + 3, none⟩ = some (.int .i64 b4) ∧ u.cell? ⟨bb, off + 4, none⟩ = some (.int .i64 b5) := by
  rcases h.cases with ⟨e, _⟩ | ⟨_, b', off', c', e, hat⟩
  · cases e
  · simp only [Value.slice.injEq, Option.some.injEq, Addr.mk.injEq] at e
    obtain ⟨⟨rfl, rfl, _⟩, _, _⟩ := e
    have := at5 hat 0 (by simp)
    simp only [Nat.zero_mul, Nat.add_zero] at this
    exact this
set_option maxHeartbeats 4000000 in
theorem walkBack (l : List Lv) (v : Value) (o1 o2 o3 o4 o5 : Int) (w : World) (h : LL (Bs.of w.heap.size) l v w) (hg : wfLs l) (_ : wfO (o1, o2, o3, o4, o5)) :
    Calls Try.prog 5 #[v, .agg #[.int .i64 o1, .int .i64 o2, .int .i64 o3, .int .i64 o4, .int .i64 o5]] w fun e w' => e = .returned (.bool true) ∧ Below w.heap.size w w' := by
  obtain ⟨B, hB⟩ : ∃ B, B = Bs.of w.heap.size := ⟨_, rfl⟩
  have hle : B.le w.heap.size := by rw [hB]; exact Bs.of_le _
  rw [← hB] at h
  clear hB
  have hbV := below1 w (.cells #[.int .i64 o1, .int .i64 o2, .int .i64 o3, .int .i64 o4, .int .i64 o5] 24)
  obtain ⟨V, hV⟩ : ∃ V, V = w.alloc (.cells #[.int .i64 o1, .int .i64 o2, .int .i64 o3, .int .i64 o4, .int .i64 o5] 24) := ⟨_, rfl⟩
  have hF : ∀ u, Below V.heap.size V u → u.cell? ⟨w.heap.size, 0, none⟩ = some (.int .i64 o1) ∧ row u w.heap.size = #[.int .i64 o1, .int .i64 o2, .int .i64 o3, .int .i64 o4, .int .i64 o5] ∧ w.heap.size < u.heap.size ∧ LL B l v u ∧ B.le u.heap.size ∧ Below w.heap.size w u ∧ u.cell? ⟨w.heap.size, 2, none⟩ = some (.int .i64 o3) := by
    intro u hu
    have hz := hu.size
    have hzV : V.heap.size = w.heap.size + 1 := by rw [hV]; simp
    rw [← hV] at hbV
    refine ⟨?_, ?_, by omega, Is.stays eL 50 h (nx hbV hu), hle.mono (by omega), nx hbV hu, ?_⟩
    · rw [hu.cell (p := ⟨w.heap.size, 0, none⟩) (by show w.heap.size < _; omega), hV]; simp [go_sem]
    · rw [(bcell hu).2.2.1 w.heap.size (by omega), hV]; simp [go_sem]
    · rw [hu.cell (p := ⟨w.heap.size, 2, none⟩) (by show w.heap.size < _; omega), hV]; simp [go_sem]
  have HF := Lib.hid hF
  have HG := Lib.hid hg.1
  have HV := Lib.hid hV
  clear hF h hle hbV hV hg
  obtain ⟨q, hq⟩ : ∃ q, far l = q := ⟨_, rfl⟩
  have HQ := Lib.hid hq
  clear hq
  have haw : ∀ u, Below V.heap.size V u → Calls Try.prog 7 #[] u fun e w' => e = .returned (.bool true) ∧ Below w.heap.size w w' := fun u hu =>
    (awake_any u).mono fun e w' ⟨h1, h2⟩ => ⟨h1, nx (HF.out u hu).2.2.2.2.2.1 h2⟩
  have HAw := Lib.hid haw
  clear haw
  go_enter Try.func5, Try.ntmps5
  go_wp2_with fail
  rw [← HV.out]
  have hF0 := HF.out V (Below.refl _ _)
  refine (far_any B l v V hF0.2.2.2.1 HG.out).mono ?_
  rintro e w1 ⟨rfl, hb1⟩
  rw [HQ.out]
  clear hF0
  have hF1 := HF.out w1 hb1
  cases q
  · obtain ⟨n1, n2⟩ := far_no HQ.out
    obtain ⟨m0, mr, mz, _, _, _, m2⟩ := hF1
    go_wp2_with fail
    have hF1 := HF.out w1 hb1
    refine (right_any B l v o3 w1 hF1.2.2.2.1 hF1.2.2.2.2.1 (by omega) (by omega)).mono ?_
    rintro e w2 ⟨rfl, hb2⟩
    have hb3 := nx hb1 hb2
    obtain ⟨rr, hrr⟩ : ∃ q, rightL o3 l = q := ⟨_, rfl⟩
    rw [hrr]
    clear m0 mr mz m2 hF1 hb1 hb2
    obtain ⟨m0, mr, mz, _, _, _, m2⟩ := HF.out _ hb3
    cases rr
    · go_wp2_with fail
      refine (HAw.out _ hb3).mono ?_
      rintro e w3 ⟨rfl, hb4⟩
      go_wp2
      go_ret
      exact ⟨rfl, hb4⟩
    · go_wp2_with fail
      have hF1 := HF.out w2 hb3
      refine (put_any B l v o1 o2 o3 o4 o5 w2 hF1.2.2.2.1 hF1.2.2.2.2.1 (by omega) (by omega)).mono ?_
      rintro e w3 ⟨va, rfl, hb4, hl4⟩
      clear m0 mr mz m2 hF1
      have hb5 := nx hb3 hb4
      obtain ⟨en, hen⟩ : ∃ q, putE l (o1, o2, o3, o4, o5) = q := ⟨_, rfl⟩
      rw [hen]
      have HE := Lib.hid hen
      clear hen hb3 hb4
      by_cases he : en = 0
      · subst he
        obtain ⟨pf, pr, pR, pc⟩ := back HE.out
        have HPf := Lib.hid pf
        have HPr := Lib.hid pr
        have HPR := Lib.hid pR
        have HPc := Lib.hid pc
        have hpl := put_len l (o1, o2, o3, o4, o5)
        clear pf pr pR
        obtain ⟨⟨b1, b2, b3, b4, b5⟩, tl, hfl⟩ : ∃ b tl, flat (put l (o1, o2, o3, o4, o5)) = b :: tl := by
          rcases hc : flat (put l (o1, o2, o3, o4, o5)) with _ | ⟨b, tl⟩
          · rw [hc] at pc; simp at pc
          · exact ⟨b, tl, rfl⟩
        have HR2 := Lib.hid hfl
        clear hfl
        have HF3 := Lib.hid (show ∀ u, Below w3.heap.size w3 u → _ ∧ _ from fun u hu => ⟨HF.out u (nx hb5 hu), Is.stays eL 50 hl4 hu⟩)
        clear hl4
        have hX3 := HF3.out _ (Below.refl _ _)
        obtain ⟨m0, mr, mz⟩ : _ ∧ _ ∧ _ := ⟨hX3.1.1, hX3.1.2.1, hX3.1.2.2.1⟩
        go_wp2_with fail
        refine (find_any B _ va o1 w3 hX3.2 hX3.1.2.2.2.2.1 (by omega) (by omega)).mono ?_
        rintro e w4 ⟨rfl, hb4⟩
        rw [HPf.out]
        simp only [fV]
        clear m0 mr mz hX3
        have hn4 := nx hb4 (below1 w4 (.cells (#[.int .i64 o1, .int .i64 o2, .int .i64 o3, .int .i64 o4, .int .i64 o5]) 24))
        have HF4 := Lib.hid (show ∀ u, Below (w4.alloc (.cells (#[.int .i64 o1, .int .i64 o2, .int .i64 o3, .int .i64 o4, .int .i64 o5]) 24)).heap.size (w4.alloc (.cells (#[.int .i64 o1, .int .i64 o2, .int .i64 o3, .int .i64 o4, .int .i64 o5]) 24)) u → _ ∧ _ ∧ _ from fun u hu => ⟨(HF3.out u (nx hn4 hu)).1, newbox5 o1 o2 o3 o4 o5 u hu, (HF3.out u (nx hn4 hu)).2⟩)
        clear hb4 hn4 HF3
        have hX4 := HF4.out _ (Below.refl _ _)
        obtain ⟨m0, mr, mz⟩ : _ ∧ _ ∧ _ := ⟨hX4.1.1, hX4.1.2.1, hX4.1.2.2.1⟩
        go_wp2_with fail
        refine (remove_any B _ va o1 _ hX4.2.2 hX4.1.2.2.2.2.1 (by omega) (by omega)).mono ?_
        rintro e w5 ⟨vk, rfl, hb5, hl5⟩
        rw [HPf.out]
        simp only [cO, Option.isSome_some]
        rw [HPr.out] at hl5
        clear m0 mr mz hX4
        have hn5 := nx hb5 (below1 w5 (.cells (#[.int .i64 o1, .int .i64 o2, .int .i64 o3, .int .i64 o4, .int .i64 o5]) 24))
        have HF5 := Lib.hid (show ∀ u, Below (w5.alloc (.cells (#[.int .i64 o1, .int .i64 o2, .int .i64 o3, .int .i64 o4, .int .i64 o5]) 24)).heap.size (w5.alloc (.cells (#[.int .i64 o1, .int .i64 o2, .int .i64 o3, .int .i64 o4, .int .i64 o5]) 24)) u → _ ∧ _ ∧ _ ∧ _ from fun u hu => ⟨(HF4.out u (nx hn5 hu)).1, newbox5 o1 o2 o3 o4 o5 u hu, Is.stays eL 50 hl5 (nx (below1 _ _) hu), (HF4.out u (nx hn5 hu)).2⟩)
        clear hb5 hn5 HF4 hl5
        have hX5 := HF5.out _ (Below.refl _ _)
        go_wp2_with fail
        refine (best_any B _ va _ hX5.2.2.2.2 hX5.1.2.2.2.2.1 (by omega) (by omega)).mono ?_
        rintro e w6 ⟨rfl, hb6⟩
        rw [HR2.out]
        simp only [List.head?_cons, fV]
        have hn6 := nx hb6 (below1 w6 (.cells (#[.int .i64 b1, .int .i64 b2, .int .i64 b3, .int .i64 b4, .int .i64 b5]) 24))
        have HF6 := Lib.hid (show ∀ u, Below (w6.alloc (.cells (#[.int .i64 b1, .int .i64 b2, .int .i64 b3, .int .i64 b4, .int .i64 b5]) 24)).heap.size (w6.alloc (.cells (#[.int .i64 b1, .int .i64 b2, .int .i64 b3, .int .i64 b4, .int .i64 b5]) 24)) u → _ ∧ _ ∧ _ from fun u hu => ⟨(HF5.out u (nx hn6 hu)).1, newbox5 b1 b2 b3 b4 b5 u hu, (HF5.out u (nx hn6 hu)).2⟩)
        clear hb6 hn6 HF5 hX5
        obtain ⟨C, hC⟩ : ∃ C, C = w6.alloc (.cells #[.int .i64 b1, .int .i64 b2, .int .i64 b3, .int .i64 b4, .int .i64 b5] 24) := ⟨_, rfl⟩
        rw [← hC] at HF6
        go_wp2_with fail
        rw [← hC]
        clear hC
        have hK := HF6.out
        refine Rf.region [0, 1, 2, 3, 4, 5, 6, 7, 8, 9, 10, 11, 12, 13, 14, 15, 16, 17, 18, 19, 20, 21, 22, 23, 24, 25, 26, 27, 28, 29, 30, 31, 32, 33, 34, 35, 36, 37, 38, 39, 40, 41, 42, 43, 44, 45, 46, 47] (by kernel_rfl) (by kernel_rfl) (by kernel_rfl) (fun _ _ d _ _ h => by cases d <;> exact h) ?_
        repeat (first | (refine Rf.Steps.skip (by rfl) (by kernel_rfl) (by rfl) ?_; simp only [Act.put, List.setIfInBounds_toArray, List.set_cons_zero, List.set_cons_succ]) | (refine Rf.Steps.pure (v := ?_) (by rfl) (by kernel_rfl) (by rfl) ?_ ?_; rotate_left; (intro w_ hS_; have hk_ := hK w_ hS_; go_simp <;> with_reducible rfl); simp only [Act.put, List.setIfInBounds_toArray, List.set_cons_zero, List.set_cons_succ]) | (refine Rf.Steps.call (v := ?_) (f := ?_) (args := ?_) (by rfl) (by kernel_rfl) (by rfl) ?_ ?_ ?_; rotate_left 3; (intro w_ hS_; have hk_ := hK w_ hS_; go_simp <;> first | with_reducible rfl | (constructor <;> with_reducible rfl)); (intro w_ hS_; have hk_ := hK w_ hS_; first | (go_at_call 16; refine (same_is (r := true) (Lib.hid (sameB_yes rfl)) B B vk v w_ hk_.2.2.2.1 hk_.1.2.2.2.1 (by omega) (by omega)).mono ?_; first | (rintro e w_ ⟨rfl, rfl⟩; refine ⟨?_, Below.refl _ _⟩; with_reducible rfl) | (rintro e w_ ⟨rfl, hb_⟩; refine ⟨?_, hb_⟩; with_reducible rfl))); simp only [Act.put, List.setIfInBounds_toArray, List.set_cons_zero, List.set_cons_succ]))
        refine Rf.Steps.forced (by kernel_rfl) ?_
        refine Rf.One.call (OL B (flat (put l (o1, o2, o3, o4, o5)))) (fun v _ _ h k => Is.stays eO 24 h k) (f := ?_) (args := ?_) (by rfl) (by rfl) ?_ ?_ ?_
        rotate_left 2
        · intro w_ hS_; have hk_ := hK w_ hS_; go_simp <;> first | with_reducible rfl | (constructor <;> with_reducible rfl)
        · intro w_ hS_; have hk_ := hK w_ hS_; exact ords_any B _ va w_ hk_.2.2.2.2.2 hk_.1.2.2.2.2.1 (by omega) (by omega)
        intro y1 u_ hy1
        simp only [Act.put, List.setIfInBounds_toArray, List.set_cons_zero, List.set_cons_succ]
        obtain ⟨bb, off, nn, cc, hn, rfl⟩ : ∃ bb off nn cc, 0 < nn ∧ y1 = .slice (some ⟨bb, off, none⟩) nn cc := by
          rcases hy1.cases with ⟨e, _⟩ | ⟨_, b, off, c, e, _⟩
          · rw [HR2.out] at e; cases e
          · exact ⟨b, off, _, c, by rw [HR2.out]; exact Nat.succ_pos _, e⟩
        have hn2 : (0 : Int) < nn := by omega
        clear hy1
        have hK2 : ∀ u, Below C.heap.size C u ∧ OL B (flat (put l (o1, o2, o3, o4, o5))) (.slice (some ⟨bb, off, none⟩) nn cc) u → _ ∧ _ := fun u hu => And.intro (hK u hu.1) (cell0 (HR2.out ▸ hu.2))
        have hRt : rightL o3 (put l (o1, o2, o3, o4, o5)) = true := rightL_iff.2 HPR.out
        have HRi : ∀ u, LL B (put l (o1, o2, o3, o4, o5)) va u → B.le u.heap.size → Calls Try.prog 17 #[va, .int .i64 o3] u fun e w' => e = .returned (.bool true) ∧ Below u.heap.size u w' := fun u h1 h2 => by
          have := right_any B _ va o3 u h1 h2 (by omega) (by omega)
          rwa [hRt] at this
        obtain ⟨nl, hnl⟩ : ∃ nl, (flat l).length = nl := ⟨_, rfl⟩
        have HC1 : ∀ u, LL B (put l (o1, o2, o3, o4, o5)) va u → B.le u.heap.size → Calls Try.prog 19 #[va] u fun e w' => e = .returned (.int .i64 ((nl : Int) + 1)) ∧ Below u.heap.size u w' := fun u h1 h2 => by
          have := count_any B _ va u h1 h2 (by omega) (by omega)
          rwa [HPc.out, hnl, Int.natCast_add, Int.natCast_one] at this
        have HC2 : ∀ u, LL B l v u → B.le u.heap.size → Calls Try.prog 19 #[v] u fun e w' => e = .returned (.int .i64 (nl : Int)) ∧ Below u.heap.size u w' := fun u h1 h2 => by
          have := count_any B _ v u h1 h2 (by omega) (by omega)
          rwa [hnl] at this
        have hnl2 : nl ≤ 200 := by omega
        have hwr : wrap64 ((nl : Int) + 1) = (nl : Int) + 1 := by unfold wrap64; omega
        have hwr2 : IntKind.i64.wrap ((nl : Int) + 1) = (nl : Int) + 1 := IntWalk.i64_in _ (by omega)
        repeat (first | (refine Rf.Steps.skip (by rfl) (by kernel_rfl) (by rfl) ?_; simp only [Act.put, List.setIfInBounds_toArray, List.set_cons_zero, List.set_cons_succ]) | (refine Rf.Steps.pure (v := ?_) (by rfl) (by kernel_rfl) (by rfl) ?_ ?_; rotate_left; (intro w_ hS_; have hk_ := hK2 w_ hS_; go_simp <;> with_reducible rfl); simp only [Act.put, List.setIfInBounds_toArray, List.set_cons_zero, List.set_cons_succ]) | (refine Rf.Steps.call (v := ?_) (f := ?_) (args := ?_) (by rfl) (by kernel_rfl) (by rfl) ?_ ?_ ?_; rotate_left 3; (intro w_ hS_; have hk_ := hK2 w_ hS_; go_simp <;> first | with_reducible rfl | (constructor <;> with_reducible rfl)); (intro w_ hS_; have hk_ := hK2 w_ hS_; first | (go_at_call 17; refine (HRi w_ hk_.1.2.2.2.2.2 hk_.1.1.2.2.2.2.1).mono ?_; first | (rintro e w_ ⟨rfl, rfl⟩; refine ⟨?_, Below.refl _ _⟩; with_reducible rfl) | (rintro e w_ ⟨rfl, hb_⟩; refine ⟨?_, hb_⟩; with_reducible rfl)) | (go_at_call 19; (first | with_reducible refine (HC1 w_ hk_.1.2.2.2.2.2 hk_.1.1.2.2.2.2.1).mono ?_ | with_reducible refine (HC2 w_ hk_.1.1.2.2.2.1 hk_.1.1.2.2.2.2.1).mono ?_); first | (rintro e w_ ⟨rfl, rfl⟩; refine ⟨?_, Below.refl _ _⟩; with_reducible rfl) | (rintro e w_ ⟨rfl, hb_⟩; refine ⟨?_, hb_⟩; with_reducible rfl)) | (go_at_call 7; refine (awake_any w_).mono ?_; first | (rintro e w_ ⟨rfl, rfl⟩; refine ⟨?_, Below.refl _ _⟩; with_reducible rfl) | (rintro e w_ ⟨rfl, hb_⟩; refine ⟨?_, hb_⟩; with_reducible rfl))); simp only [Act.put, List.setIfInBounds_toArray, List.set_cons_zero, List.set_cons_succ]))
        refine Rf.Steps.nil (by kernel_rfl) ?_
        rintro w7 ⟨hb7, _⟩
        have HZ := Lib.hid (hK w7 hb7).1.2.2.2.2.2.1
        clear hK hK2 HRi HC1 HC2
        go_wp2
        go_ret
        exact ⟨rfl, HZ.out⟩
      · have hd : (en != 0) = true := by simpa using he
        have hps : put l (o1, o2, o3, o4, o5) = l := by unfold put; rw [HE.out, if_neg he]
        rw [hps] at hl4
        have hF1 := (HF.out w3 hb5).2.2.2.1
        clear he hps
        go_wp2_with fail
        refine (same_is (r := true) (Lib.hid (sameB_yes rfl)) B B va v w3 hl4 hF1 (by omega) (by omega)).mono ?_
        rintro e w4 ⟨rfl, hb6⟩
        clear hl4 hF1
        go_wp2_with fail
        refine (HAw.out _ (nx hb5 hb6)).mono ?_
        rintro e w5 ⟨rfl, hb7⟩
        go_wp2
        go_ret
        exact ⟨rfl, hb7⟩
  · go_wp2_with fail
    refine (HAw.out _ hb1).mono ?_
    rintro e w2 ⟨rfl, hb2⟩
    go_wp2
    go_ret
    exact ⟨rfl, hb2⟩
end Go.Proofs.Ytmpkindlanadbaa.Le
