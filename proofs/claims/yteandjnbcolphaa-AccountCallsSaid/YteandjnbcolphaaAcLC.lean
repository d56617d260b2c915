/- AccountCalls: the call. -/
import Derived.Test.YteandjnbcolphaaAcL
namespace Go.Proofs.Yteandjnbcolphaa.Ac
open Go.RowKit
set_option linter.unusedVariables false
open Go.Proofs.Yteandjnbcolphaa.Rw
open Go.Proofs.Yteandjnbcolphaa.Sl
theorem same_is {l : List Hd} {v x : Value} (w : World) (h : HL l v w) (k : HL l x w) (hm : l.length ≤ 1000000) :
    Calls Try.prog 11 #[v, x] w fun e w' => e = .returned (.bool true) ∧ Below w.heap.size w w' :=
  (same_any l l v x w h k hm).mono fun e w' ⟨a, b⟩ => ⟨by rw [a]; simp, b⟩
theorem setF_len (p : Pu) (n : Int) : ∀ (l : List Hd) (d : Bool), (setF p n l d).length ≤ 2 * l.length + 1
  | [], d => by cases d <;> simp [setF]
  | h :: r, d => by
    have := setF_len p n r (d || !pless (key h) p)
    rw [setF, List.length_append, List.length_append, List.length_cons]
    split <;> split <;> simp <;> omega
theorem giveL_len (l : List Hd) (p : Pu) (n : Int) : (giveL l p n).length ≤ 2 * l.length + 1 := by
  unfold giveL; split
  · exact setF_len _ _ _ _
  · omega
theorem takeL_len (l : List Hd) (p : Pu) (n : Int) : (takeL l p n).length ≤ 2 * l.length + 1 := by
  unfold takeL; split
  · exact setF_len _ _ _ _
  · omega
set_option maxHeartbeats 8000000 in
theorem walkCalls (l : List Hd) (v : Value) (p q n : Int) (w : World) (h : HL l v w) (hg : ∀ x ∈ l, wfH x) (wn : (Lit.int .i64 n).wf = true) :
    Calls Try.prog 3 #[v, .agg #[.int .i64 p, .int .i64 q], .int .i64 n] w fun e w' => e = .returned (.bool true) ∧ Below w.heap.size w w' := by
  clear wn hg
  have HH := Lib.hid h
  obtain ⟨a, c, rfl, _⟩ := h
  by_cases hl : 600 < l.length
  · have hd : decide ((600 : Int) < l.length) = true := by rw [decide_eq_true_eq]; omega
    go_enter Try.func3, Try.ntmps3
    go_wp2_with fail
    refine (awake_any _).mono ?_
    rintro e w1 ⟨rfl, hb1⟩
    go_wp2
    go_ret
    exact ⟨rfl, nx (below1 _ _) hb1⟩
  · have hd : decide ((600 : Int) < l.length) = false := by rw [decide_eq_false_iff_not]; omega
    have HM := Lib.hid (show l.length ≤ 1000000 by omega)
    have gl := giveL_len l (p, q) n
    have tl := takeL_len l (p, q) n
    obtain ⟨L1, hL1⟩ : ∃ x, giveL l (p, q) n = x := ⟨_, rfl⟩
    obtain ⟨E1, hE1⟩ : ∃ x, giveE l (p, q) n = x := ⟨_, rfl⟩
    obtain ⟨L2, hL2⟩ : ∃ x, takeL l (p, q) n = x := ⟨_, rfl⟩
    obtain ⟨E2, hE2⟩ : ∃ x, takeE l (p, q) n = x := ⟨_, rfl⟩
    rw [hL1] at gl
    rw [hL2] at tl
    have HG1 := Lib.hid (show L1.length ≤ 1000000 by omega)
    have HG2 := Lib.hid (show L2.length ≤ 1000000 by omega)
    obtain ⟨nl, hnl⟩ : ∃ x, x = l.length := ⟨_, rfl⟩
    obtain ⟨v, hv⟩ : ∃ v, v = Value.slice a l.length c := ⟨_, rfl⟩
    rw [← hv] at HH
    have C1 : ∀ w, HL l v w → Calls Try.prog 7 #[v, .agg #[.int .i64 p, .int .i64 q], .int .i64 n] w (Post2 (HL L1) E1 w) := fun w h => by rw [← hL1, ← hE1]; exact give_any l v p q n w h HM.out
    have C2 : ∀ w, HL l v w → Calls Try.prog 8 #[v, .agg #[.int .i64 p, .int .i64 q], .int .i64 n] w (Post2 (HL L1) E1 w) := fun w h => by rw [← hL1, ← hE1]; exact rGive_any l v p q n w h HM.out
    have C3 : ∀ w, HL l v w → Calls Try.prog 9 #[v, .agg #[.int .i64 p, .int .i64 q], .int .i64 n] w (Post2 (HL L2) E2 w) := fun w h => by rw [← hL2, ← hE2]; exact take_any l v p q n w h HM.out
    have C4 : ∀ w, HL l v w → Calls Try.prog 10 #[v, .agg #[.int .i64 p, .int .i64 q], .int .i64 n] w (Post2 (HL L2) E2 w) := fun w h => by rw [← hL2, ← hE2]; exact rTake_any l v p q n w h HM.out
    have C1 := Lib.hid C1
    have C2 := Lib.hid C2
    have C3 := Lib.hid C3
    have C4 := Lib.hid C4
    obtain ⟨R, hR⟩ : ∃ x, right l = x := ⟨_, rfl⟩
    obtain ⟨G, hG⟩ : ∃ x, get l (p, q) = x := ⟨_, rfl⟩
    obtain ⟨T, hT⟩ : ∃ x, total l q = x := ⟨_, rfl⟩
    have D1 : ∀ w, HL l v w → Calls Try.prog 12 #[v] w fun e w' => e = .returned (.bool R) ∧ Below w.heap.size w w' := fun w h => by rw [← hR]; exact right_any l v w h HM.out
    have D2 : ∀ w, HL l v w → Calls Try.prog 13 #[v] w fun e w' => e = .returned (.bool R) ∧ Below w.heap.size w w' := fun w h => by rw [← hR]; exact rRight_any l v w h (by have := HM.out; unfold maxLen; omega)
    have D3 : ∀ w, HL l v w → Calls Try.prog 14 #[v, .agg #[.int .i64 p, .int .i64 q]] w fun e w' => e = .returned (.int .i64 G) ∧ Below w.heap.size w w' := fun w h => by rw [← hG]; exact get_any l v p q w h HM.out
    have D4 : ∀ w, HL l v w → Calls Try.prog 15 #[v, .agg #[.int .i64 p, .int .i64 q]] w fun e w' => e = .returned (.int .i64 G) ∧ Below w.heap.size w w' := fun w h => by rw [← hG]; exact rGet_any l v p q w h (by have := HM.out; unfold maxLen; omega)
    have D5 : ∀ w, HL l v w → Calls Try.prog 16 #[v, .int .i64 q] w fun e w' => e = .returned (.int .i64 T) ∧ Below w.heap.size w w' := fun w h => by rw [← hT]; exact total_any l v q w h HM.out
    have D6 : ∀ w, HL l v w → Calls Try.prog 17 #[v, .int .i64 q] w fun e w' => e = .returned (.int .i64 T) ∧ Below w.heap.size w w' := fun w h => by rw [← hT]; exact rTotal_any l v q w h (by have := HM.out; unfold maxLen; omega)
    have D1 := Lib.hid D1
    have D2 := Lib.hid D2
    have D3 := Lib.hid D3
    have D4 := Lib.hid D4
    have D5 := Lib.hid D5
    have D6 := Lib.hid D6
    clear hL1 hE1 hL2 hE2 gl tl hR hG hT
    go_enter Try.func3, Try.ntmps3
    go_wp2_with fail
    rw [← hv, ← hnl]
    obtain ⟨W, hW⟩ : ∃ W, W = w.alloc (.cells #[.int .i64 p, .int .i64 q] 24) := ⟨_, rfl⟩
    have P0 : Hid (W.cell? ⟨w.heap.size, 0, none⟩ = some (.int .i64 p) ∧ W.cell? ⟨w.heap.size, 1, none⟩ = some (.int .i64 q)) := Lib.hid (by rw [hW]; exact ⟨by simp [go_sem], by simp [go_sem]⟩)
    have hb0 : Below w.heap.size w W := hW ▸ below1 w _
    have hz0 : w.heap.size < W.heap.size := by rw [hW]; simp
    rw [← hW]
    clear hW
    have H0 := Lib.hid (SL.stays enc 3 l v w _ HH.out hb0)
    clear HH hnl hv
    refine (C1.out _ H0.out).mono ?_
    rintro e w1 ⟨x1, rfl, hb, hx1⟩
    have P1 : Hid (w1.cell? ⟨w.heap.size, 0, none⟩ = some (.int .i64 p) ∧ w1.cell? ⟨w.heap.size, 1, none⟩ = some (.int .i64 q)) := Lib.hid ⟨by rw [hb.cell (p := ⟨w.heap.size, 0, none⟩) hz0]; exact P0.out.1, by rw [hb.cell (p := ⟨w.heap.size, 1, none⟩) hz0]; exact P0.out.2⟩
    have hz1 : w.heap.size < w1.heap.size := by have := hb.size; omega
    have H1 := Lib.hid (SL.stays enc 3 l v _ _ H0.out hb)
    have X1 := Lib.hid hx1
    have hb1 := nx hb0 hb
    clear hb hx1 hz0 hb0
    obtain ⟨k0, k1⟩ := P1.out
    go_wp2_with fail
    clear k0 k1
    refine (C2.out _ H1.out).mono ?_
    rintro e w2 ⟨x2, rfl, hb, hx2⟩
    have P2 : Hid (w2.cell? ⟨w.heap.size, 0, none⟩ = some (.int .i64 p) ∧ w2.cell? ⟨w.heap.size, 1, none⟩ = some (.int .i64 q)) := Lib.hid ⟨by rw [hb.cell (p := ⟨w.heap.size, 0, none⟩) hz1]; exact P1.out.1, by rw [hb.cell (p := ⟨w.heap.size, 1, none⟩) hz1]; exact P1.out.2⟩
    have hz2 : w.heap.size < w2.heap.size := by have := hb.size; omega
    have H2 := Lib.hid (SL.stays enc 3 l v _ _ H1.out hb)
    have X2 := Lib.hid hx2
    replace X1 := Lib.hid (SL.stays enc 3 _ _ _ _ X1.out hb)
    have hb2 := nx hb1 hb
    clear hb hx2 hz1 hb1
    obtain ⟨k0, k1⟩ := P2.out
    go_wp2_with fail
    clear k0 k1
    refine (C3.out _ H2.out).mono ?_
    rintro e w3 ⟨x3, rfl, hb, hx3⟩
    have P3 : Hid (w3.cell? ⟨w.heap.size, 0, none⟩ = some (.int .i64 p) ∧ w3.cell? ⟨w.heap.size, 1, none⟩ = some (.int .i64 q)) := Lib.hid ⟨by rw [hb.cell (p := ⟨w.heap.size, 0, none⟩) hz2]; exact P2.out.1, by rw [hb.cell (p := ⟨w.heap.size, 1, none⟩) hz2]; exact P2.out.2⟩
    have hz3 : w.heap.size < w3.heap.size := by have := hb.size; omega
    have H3 := Lib.hid (SL.stays enc 3 l v _ _ H2.out hb)
    have X3 := Lib.hid hx3
    replace X1 := Lib.hid (SL.stays enc 3 _ _ _ _ X1.out hb)
    replace X2 := Lib.hid (SL.stays enc 3 _ _ _ _ X2.out hb)
    have hb3 := nx hb2 hb
    clear hb hx3 hz2 hb2
    obtain ⟨k0, k1⟩ := P3.out
    go_wp2_with fail
    clear k0 k1
    refine (C4.out _ H3.out).mono ?_
    rintro e w4 ⟨x4, rfl, hb, hx4⟩
    have P4 : Hid (w4.cell? ⟨w.heap.size, 0, none⟩ = some (.int .i64 p) ∧ w4.cell? ⟨w.heap.size, 1, none⟩ = some (.int .i64 q)) := Lib.hid ⟨by rw [hb.cell (p := ⟨w.heap.size, 0, none⟩) hz3]; exact P3.out.1, by rw [hb.cell (p := ⟨w.heap.size, 1, none⟩) hz3]; exact P3.out.2⟩
    have hz4 : w.heap.size < w4.heap.size := by have := hb.size; omega
    have H4 := Lib.hid (SL.stays enc 3 l v _ _ H3.out hb)
    have X4 := Lib.hid hx4
    replace X1 := Lib.hid (SL.stays enc 3 _ _ _ _ X1.out hb)
    replace X2 := Lib.hid (SL.stays enc 3 _ _ _ _ X2.out hb)
    replace X3 := Lib.hid (SL.stays enc 3 _ _ _ _ X3.out hb)
    have hb4 := nx hb3 hb
    clear hb hx4 hz3 hb3
    go_wp2
    have hK : ∀ u, Below w4.heap.size w4 u → (u.cell? ⟨w.heap.size, 0, none⟩ = some (.int .i64 p) ∧ u.cell? ⟨w.heap.size, 1, none⟩ = some (.int .i64 q)) ∧ HL l v u ∧ HL L1 x1 u ∧ HL L1 x2 u ∧ HL L2 x3 u ∧ HL L2 x4 u := fun u hu => ⟨⟨by rw [hu.cell (p := ⟨w.heap.size, 0, none⟩) hz4]; exact P4.out.1, by rw [hu.cell (p := ⟨w.heap.size, 1, none⟩) hz4]; exact P4.out.2⟩, SL.stays enc 3 _ _ _ _ H4.out hu, SL.stays enc 3 _ _ _ _ X1.out hu, SL.stays enc 3 _ _ _ _ X2.out hu, SL.stays enc 3 _ _ _ _ X3.out hu, SL.stays enc 3 _ _ _ _ X4.out hu⟩
    refine Rf.region [0, 1, 2, 3, 4, 5, 6, 7, 8, 9, 10, 11, 12, 13, 14, 15, 16, 17, 18, 19, 20, 21, 22, 23, 24, 25, 26, 27, 28, 29, 30, 31, 32, 33, 34, 35, 36, 37, 38, 39, 40, 41, 42, 43, 44, 45, 46, 47, 48, 50, 51, 52, 49, 53, 54, 55, 56, 57, 58, 59] (by kernel_rfl) (by kernel_rfl) (by kernel_rfl) (fun _ _ d _ _ h => by cases d <;> exact h) ?_
    repeat (first | (refine Rf.Steps.skip (by rfl) (by kernel_rfl) (by rfl) ?_; simp only [Act.put, List.setIfInBounds_toArray, List.set_cons_zero, List.set_cons_succ]) | (refine Rf.Steps.pure (v := ?_) (by rfl) (by kernel_rfl) (by rfl) ?_ ?_; rotate_left; (intro w_ hS_; have hk_ := hK w_ hS_; go_simp <;> with_reducible rfl); simp only [Act.put, List.setIfInBounds_toArray, List.set_cons_zero, List.set_cons_succ]) | (refine Rf.Steps.call (v := ?_) (f := ?_) (args := ?_) (by rfl) (by kernel_rfl) (by rfl) ?_ ?_ ?_; rotate_left 3; (intro w_ hS_; have hk_ := hK w_ hS_; go_simp <;> first | with_reducible rfl | (constructor <;> with_reducible rfl)); (intro w_ hS_; have hk_ := hK w_ hS_; first | (go_at_call 11; (first | with_reducible refine (same_is _ hk_.2.2.1 hk_.2.2.2.1 HG1.out).mono ?_ | with_reducible refine (same_is _ hk_.2.2.2.2.1 hk_.2.2.2.2.2 HG2.out).mono ?_); first | (rintro e w_ ⟨rfl, rfl⟩; refine ⟨?_, Below.refl _ _⟩; with_reducible rfl) | (rintro e w_ ⟨rfl, hb_⟩; refine ⟨?_, hb_⟩; with_reducible rfl)) | (go_at_call 12; refine (D1.out _ hk_.2.1).mono ?_; first | (rintro e w_ ⟨rfl, rfl⟩; refine ⟨?_, Below.refl _ _⟩; with_reducible rfl) | (rintro e w_ ⟨rfl, hb_⟩; refine ⟨?_, hb_⟩; with_reducible rfl)) | (go_at_call 13; refine (D2.out _ hk_.2.1).mono ?_; first | (rintro e w_ ⟨rfl, rfl⟩; refine ⟨?_, Below.refl _ _⟩; with_reducible rfl) | (rintro e w_ ⟨rfl, hb_⟩; refine ⟨?_, hb_⟩; with_reducible rfl)) | (go_at_call 14; refine (D3.out _ hk_.2.1).mono ?_; first | (rintro e w_ ⟨rfl, rfl⟩; refine ⟨?_, Below.refl _ _⟩; with_reducible rfl) | (rintro e w_ ⟨rfl, hb_⟩; refine ⟨?_, hb_⟩; with_reducible rfl)) | (go_at_call 15; refine (D4.out _ hk_.2.1).mono ?_; first | (rintro e w_ ⟨rfl, rfl⟩; refine ⟨?_, Below.refl _ _⟩; with_reducible rfl) | (rintro e w_ ⟨rfl, hb_⟩; refine ⟨?_, hb_⟩; with_reducible rfl)) | (go_at_call 16; refine (D5.out _ hk_.2.1).mono ?_; first | (rintro e w_ ⟨rfl, rfl⟩; refine ⟨?_, Below.refl _ _⟩; with_reducible rfl) | (rintro e w_ ⟨rfl, hb_⟩; refine ⟨?_, hb_⟩; with_reducible rfl)) | (go_at_call 17; refine (D6.out _ hk_.2.1).mono ?_; first | (rintro e w_ ⟨rfl, rfl⟩; refine ⟨?_, Below.refl _ _⟩; with_reducible rfl) | (rintro e w_ ⟨rfl, hb_⟩; refine ⟨?_, hb_⟩; with_reducible rfl))); simp only [Act.put, List.setIfInBounds_toArray, List.set_cons_zero, List.set_cons_succ]))
    refine Rf.Steps.forced (by kernel_rfl) ?_
    refine Rf.One.call (HL (ofL l p)) (fun v => SL.stays enc 3 (ofL l p) v) (f := ?_) (args := ?_) (by rfl) (by rfl) ?_ ?_ ?_
    rotate_left 2
    · intro w_ hS_; have hk_ := hK w_ hS_; go_simp <;> first | with_reducible rfl | (constructor <;> with_reducible rfl)
    · intro w_ hS_; have hk_ := hK w_ hS_; exact of_any l v p _ hk_.2.1 HM.out
    intro y1 u_ hy1
    simp only [Act.put, List.setIfInBounds_toArray, List.set_cons_zero, List.set_cons_succ]
    refine Rf.Steps.forced (by kernel_rfl) ?_
    refine Rf.One.call (HL (ofL l p)) (fun v => SL.stays enc 3 (ofL l p) v) (f := ?_) (args := ?_) (by rfl) (by rfl) ?_ ?_ ?_
    rotate_left 2
    · intro w_ hS_; have hk_ := (fun u (hu : Below w4.heap.size w4 u ∧ _) => hK u hu.1) w_ hS_; go_simp <;> first | with_reducible rfl | (constructor <;> with_reducible rfl)
    · intro w_ hS_; have hk_ := (fun u (hu : Below w4.heap.size w4 u ∧ _) => hK u hu.1) w_ hS_; exact rOf_any l v p _ hk_.2.1 HM.out
    intro y2 u_ hy2
    simp only [Act.put, List.setIfInBounds_toArray, List.set_cons_zero, List.set_cons_succ]
    clear hy1 hy2
    repeat (first | (refine Rf.Steps.skip (by rfl) (by kernel_rfl) (by rfl) ?_; simp only [Act.put, List.setIfInBounds_toArray, List.set_cons_zero, List.set_cons_succ]) | (refine Rf.Steps.pure (v := ?_) (by rfl) (by kernel_rfl) (by rfl) ?_ ?_; rotate_left; (intro w_ hS_; have hk_ := (fun u (hu : (Below w4.heap.size w4 u ∧ _) ∧ _) => And.intro (hu : (Below w4.heap.size w4 u ∧ HL (ofL l p) y1 u) ∧ HL (ofL l p) y2 u) True.intro) w_ hS_; go_simp <;> with_reducible rfl); simp only [Act.put, List.setIfInBounds_toArray, List.set_cons_zero, List.set_cons_succ]) | (refine Rf.Steps.call (v := ?_) (f := ?_) (args := ?_) (by rfl) (by kernel_rfl) (by rfl) ?_ ?_ ?_; rotate_left 3; (intro w_ hS_; have hk_ := (fun u (hu : (Below w4.heap.size w4 u ∧ _) ∧ _) => And.intro (hu : (Below w4.heap.size w4 u ∧ HL (ofL l p) y1 u) ∧ HL (ofL l p) y2 u) True.intro) w_ hS_; go_simp <;> first | with_reducible rfl | (constructor <;> with_reducible rfl)); (intro w_ hS_; have hk_ := (fun u (hu : (Below w4.heap.size w4 u ∧ _) ∧ _) => And.intro (hu : (Below w4.heap.size w4 u ∧ HL (ofL l p) y1 u) ∧ HL (ofL l p) y2 u) True.intro) w_ hS_; first | (go_at_call 11; refine (same_is _ hk_.1.1.2 hk_.1.2 (Nat.le_trans (ofL_len l p) HM.out)).mono ?_; first | (rintro e w_ ⟨rfl, rfl⟩; refine ⟨?_, Below.refl _ _⟩; with_reducible rfl) | (rintro e w_ ⟨rfl, hb_⟩; refine ⟨?_, hb_⟩; with_reducible rfl)) | (go_at_call 6; refine (awake_any _).mono ?_; first | (rintro e w_ ⟨rfl, rfl⟩; refine ⟨?_, Below.refl _ _⟩; with_reducible rfl) | (rintro e w_ ⟨rfl, hb_⟩; refine ⟨?_, hb_⟩; with_reducible rfl))); simp only [Act.put, List.setIfInBounds_toArray, List.set_cons_zero, List.set_cons_succ]))
    refine Rf.Steps.nil (by kernel_rfl) ?_
    rintro w5 ⟨⟨hb5, _⟩, _⟩
    go_wp2
    go_ret
    exact ⟨rfl, nx hb4 hb5⟩
end Go.Proofs.Yteandjnbcolphaa.Ac
