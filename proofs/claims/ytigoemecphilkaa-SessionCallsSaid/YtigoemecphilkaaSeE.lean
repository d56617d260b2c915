/- Of the statements of layer 11: same (of like lists), awake. -/
import Derived.Test.YtigoemecphilkaaSfF
namespace Go.Proofs.Ytigoemecphilkaa.Se
open Go.RowKit
set_option linter.unusedVariables false
open Go.Proofs.Ytigoemecphilkaa.Rw
open Go.Proofs.Ytigoemecphilkaa.Da
set_option maxHeartbeats 2000000 in
theorem same_yes {B B' : Bs} (l : List Sn) (v v' : Value) (w : World) (h : NL B l v w) (k : NL B' l v' w) (hm : l.length ≤ 1000000) :
    Calls Try.prog 11 #[v, v'] w fun e w' => e = .returned (.bool true) ∧ Below w.heap.size w w' := by
  obtain ⟨a, cp, rfl, hel⟩ := h
  obtain ⟨a', cp', rfl, hel'⟩ := k
  obtain ⟨n, hn⟩ : ∃ n, n = l.length := ⟨_, rfl⟩
  rw [← hn] at hm ⊢
  have HN := Lib.hid hn
  have HE := Lib.hid hel
  have HE' := Lib.hid hel'
  clear hn hel hel'
  go_enter Try.func11, Try.ntmps11
  go_wp2
  go_loopw [13] (fun i wr => ∃ k : Nat, k ≤ n ∧ i = .int .i64 k ∧ Below w.heap.size w wr) (fun i _ => n - (intOf i).toNat)
  case atStart => exact ⟨0, Nat.zero_le _, rfl, Below.refl _ _⟩
  case round =>
    obtain ⟨k, hk, rfl, hb⟩ := hrel
    by_cases hlt : k < n
    · have hlt2 : (k : Int) < n := by omega
      have hkl : k < l.length := by rw [← HN.out]; exact hlt
      rcases HE.out with ⟨e, _⟩ | ⟨b, off, rfl, hat⟩
      · rw [e] at hkl; cases hkl
      rcases HE'.out with ⟨e, _⟩ | ⟨b', off', rfl, hat'⟩
      · rw [e] at hkl; cases hkl
      obtain ⟨⟨s1, s2, s3, s4, s5, s6, s7⟩, hs⟩ : ∃ s, l[k] = s := ⟨_, rfl⟩
      have hF : ∀ u, Below wr.heap.size wr u → (u.cell? ⟨b, off + k * 7, none⟩ = some (.int .i64 s1) ∧ u.cell? ⟨b, off + k * 7 + 1, none⟩ = some (.int .i64 s2) ∧ u.cell? ⟨b, off + k * 7 + 2, none⟩ = some (.int .i64 s3) ∧ u.cell? ⟨b, off + k * 7 + 3, none⟩ = some (.int .i64 s4) ∧ u.cell? ⟨b, off + k * 7 + 4, none⟩ = some (.int .i64 s5) ∧ u.cell? ⟨b, off + k * 7 + 5, none⟩ = some (.int .i64 s6) ∧ u.cell? ⟨b, off + k * 7 + 6, none⟩ = some (.int .i64 s7))
          ∧ (u.cell? ⟨b', off' + k * 7, none⟩ = some (.int .i64 s1) ∧ u.cell? ⟨b', off' + k * 7 + 1, none⟩ = some (.int .i64 s2) ∧ u.cell? ⟨b', off' + k * 7 + 2, none⟩ = some (.int .i64 s3) ∧ u.cell? ⟨b', off' + k * 7 + 3, none⟩ = some (.int .i64 s4) ∧ u.cell? ⟨b', off' + k * 7 + 4, none⟩ = some (.int .i64 s5) ∧ u.cell? ⟨b', off' + k * 7 + 5, none⟩ = some (.int .i64 s6) ∧ u.cell? ⟨b', off' + k * 7 + 6, none⟩ = some (.int .i64 s7)) := fun u hu => by
        have h1 := at7 (Lies.keep eS 42 hat (Keeps.of_below (nx hb hu))) k hkl
        have h2 := at7 (Lies.keep eS 42 hat' (Keeps.of_below (nx hb hu))) k hkl
        rw [hs] at h1 h2
        exact ⟨h1, h2⟩
      have he : eqS (s1, s2, s3, s4, s5, s6, s7) (s1, s2, s3, s4, s5, s6, s7) = true := eqS_iff.2 rfl
      clear hat hat' hs
      go_wp2
      refine Rg.region (by kernel_rfl) (by kernel_rfl) (by kernel_rfl) (fun _ _ d _ _ h => by cases d <;> exact h) _ rfl ?_
      repeat (first | (refine Rg.Seq.skip (by rfl) ?_; simp only [Act.put, List.setIfInBounds_toArray, List.set_cons_zero, List.set_cons_succ]) | (refine Rg.Seq.pure (v := ?_) (by rfl) ?_ ?_; rotate_left; (intro w_ hS_; have hk_ := hF w_ hS_; go_simp <;> with_reducible rfl); simp only [Act.put, List.setIfInBounds_toArray, List.set_cons_zero, List.set_cons_succ]))
      intro w1 hb1
      go_wp2
      go_roundw
      case rel => exact ⟨k + 1, by omega, by go_num, nx hb hb1⟩
      case measure => simp [intOf]; omega
    · obtain rfl : k = n := by omega
      go_wp2
      go_ret
      exact ⟨rfl, hb⟩
theorem look_is {q : Rp × Int} {c x : Int} {l : List Sn} (H : Hid (look c x l = q)) {B : Bs} {v : Value} {w : World} (h : NL B l v w) (hm : l.length ≤ 1000000) :
    Calls Try.prog 9 #[v, .int .i64 c, .int .i64 x] w fun e w' => e = .returned (lkV q) ∧ Below w.heap.size w w' := by
  rw [← H.out]; exact look_any B l v c x w h hm
abbrev rA : Rp := (3, 5, 7, 7, 0)
theorem aw0 : noteE [] rA = 0 ∧ noteL [] rA = [mk rA] := ⟨by kernel_rfl, by kernel_rfl⟩
theorem aw1 : look 3 5 [mk rA] = (rA, 0) := by decide
theorem aw2 : look 3 4 [mk rA] = (z5, 13) := by decide
theorem aw3 : look 3 6 [mk rA] = (z5, 8) := by decide
theorem aw4 : noteE [mk rA] rA = 13 ∧ noteL [mk rA] rA = [mk rA] := ⟨by kernel_rfl, by kernel_rfl⟩
theorem aw5 : last 3 [mk rA] = 5 := by decide
theorem NC.nil (B : Bs) (w : World) : NC B [] (.slice none 0 0) w := ⟨Is.nil _ _ _ _, Nat.le_refl 0⟩
set_option maxRecDepth 8000 in
set_option maxHeartbeats 4000000 in
theorem awake_any (w : World) : Calls Try.prog 6 #[] w fun e w' => e = .returned (.bool true) ∧ Below w.heap.size w w' := by
  obtain ⟨B, hBe⟩ : ∃ B, B = Bs.of w.heap.size := ⟨_, rfl⟩
  have hB : B.le w.heap.size := by rw [hBe]; exact Bs.of_le _
  have HB := Lib.hid (show ∀ u, Below w.heap.size w u → B.le u.heap.size from fun u hu => hB.mono hu.size)
  obtain ⟨V, hV⟩ : ∃ V, V = w.alloc (.cells #[.int .i64 3, .int .i64 5, .int .i64 7, .int .i64 7, .int .i64 0] 25) := ⟨_, rfl⟩
  have hbV : Below w.heap.size w V := hV ▸ below1 w _
  have hz : w.heap.size < V.heap.size := by rw [hV]; simp
  have hrow : row V w.heap.size = #[.int .i64 3, .int .i64 5, .int .i64 7, .int .i64 7, .int .i64 0] := by rw [hV]; simp [go_sem]
  have HK := Lib.hid (show ∀ u, Below V.heap.size V u → row u w.heap.size = #[.int .i64 3, .int .i64 5, .int .i64 7, .int .i64 7, .int .i64 0] from fun u hu => by rw [(bcell hu).2.2.1 _ hz]; exact hrow)
  have HV := Lib.hid hV
  have H1 := Lib.hid aw1
  have H2 := Lib.hid aw2
  have H3 := Lib.hid aw3
  have H5 := Lib.hid aw5
  clear hBe hB hV hrow
  go_enter Try.func6, Try.ntmps6
  go_wp2_with fail
  rw [← HV.out]
  refine (note_any B [] _ 3 5 7 7 0 V (NC.nil _ _) (HB.out V hbV) (by simp)).mono ?_
  rintro e w1 ⟨v1, rfl, hb1, hn1⟩
  rw [aw0.2] at hn1
  rw [aw0.1]
  have hbw1 := nx hbV hb1
  have HN := Lib.hid (show ∀ u, Below w1.heap.size w1 u → NC B [mk rA] v1 u from fun u hu => NC.stays hn1 hu)
  clear hn1
  go_wp2_with fail
  refine (look_is H1 (HN.out w1 (Below.refl _ _)).1 (by simp)).mono ?_
  rintro e w2 ⟨rfl, hb2⟩
  unfold lkV
  obtain ⟨X, hX⟩ : ∃ X, X = w2.alloc (.cells #[.int .i64 3, .int .i64 5, .int .i64 7, .int .i64 7, .int .i64 0] 25) := ⟨_, rfl⟩
  have hbX : Below w2.heap.size w2 X := hX ▸ below1 w2 _
  have hzX : w2.heap.size < X.heap.size := by rw [hX]; simp
  have hrX : row X w2.heap.size = #[.int .i64 3, .int .i64 5, .int .i64 7, .int .i64 7, .int .i64 0] := by rw [hX]; simp [go_sem]
  have HX := Lib.hid hX
  clear hX
  have hbu3 := nx hb2 hbX
  go_wp2_with fail
  rw [← HX.out]
  refine (look_is H2 (HN.out X hbu3).1 (by simp)).mono ?_
  rintro e w3 ⟨rfl, hb3⟩
  unfold lkV z5
  have hbu4 := nx hbu3 (nx hb3 (below1 w3 (.cells #[.int .i64 0, .int .i64 0, .int .i64 0, .int .i64 0, .int .i64 0] 25)))
  have hbx4 := nx hb3 (below1 w3 (.cells #[.int .i64 0, .int .i64 0, .int .i64 0, .int .i64 0, .int .i64 0] 25))
  go_wp2_with fail
  refine (look_is H3 (HN.out _ hbu4).1 (by simp)).mono ?_
  rintro e w4 ⟨rfl, hb4⟩
  unfold lkV z5
  have hbu5 := nx hbu4 (nx hb4 (below1 w4 (.cells #[.int .i64 0, .int .i64 0, .int .i64 0, .int .i64 0, .int .i64 0] 25)))
  have hbx5 := nx hbx4 (nx hb4 (below1 w4 (.cells #[.int .i64 0, .int .i64 0, .int .i64 0, .int .i64 0, .int .i64 0] 25)))
  have hk4 := HK.out w4 (nx hb1 (nx hbu4 hb4))
  have hz4 : w.heap.size < w4.heap.size := by have := (nx hb1 (nx hbu4 hb4)).size; omega
  go_wp2_with fail
  refine (note_any B [mk rA] _ 3 5 7 7 0 _ (HN.out _ hbu5) (HB.out _ (nx hbw1 hbu5)) (by simp)).mono ?_
  rintro e w6 ⟨v6, rfl, hb6, hn6⟩
  rw [aw4.1]
  clear hn6
  have hbu6 := nx hbu5 hb6
  have hbx6 := nx hbx5 hb6
  have hk6 := HK.out w6 (nx hb1 hbu6)
  have hx6 : row w6 w2.heap.size = #[.int .i64 3, .int .i64 5, .int .i64 7, .int .i64 7, .int .i64 0] := by rw [(bcell hbx6).2.2.1 _ hzX]; exact hrX
  have he : eqR (3, 5, 7, 7, 0) (3, 5, 7, 7, 0) = true := by decide
  clear hk4 hz4 hrX hb1 hb2 hb3 hb4 hbX hbu3 hbu4 hbu5 hbx4 hbx5
  go_wp2_with fail
  refine (last_is H5 (HN.out _ hbu6).1 (by simp)).mono ?_
  rintro e w7 ⟨rfl, hb7⟩
  go_wp2
  go_ret
  exact ⟨rfl, nx hbw1 (nx hbu6 hb7)⟩
end Go.Proofs.Ytigoemecphilkaa.Se
