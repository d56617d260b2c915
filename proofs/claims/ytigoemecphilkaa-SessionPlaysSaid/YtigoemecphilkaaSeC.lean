/- The document's own: Last, Look. -/
import Derived.Test.YtigoemecphilkaaSfB
namespace Go.Proofs.Ytigoemecphilkaa.Se
open Go.RowKit
set_option linter.unusedVariables false
open Go.Proofs.Ytigoemecphilkaa.Rw
open Go.Proofs.Ytigoemecphilkaa.Da
set_option maxHeartbeats 2000000 in
theorem rLast_any (B : Bs) (l : List Sn) (v : Value) (c : Int) (w : World) (h : NL B l v w) (hm : l.length ≤ 1000000) :
    Calls Try.prog 15 #[v, .int .i64 c] w fun e w' => e = .returned (.int .i64 (last c l)) ∧ Below w.heap.size w w' := by
  obtain ⟨a, cp, rfl, hel⟩ := h
  obtain ⟨n, hn⟩ : ∃ n, n = l.length := ⟨_, rfl⟩
  obtain ⟨r, hr⟩ : ∃ r, fnd c l = r := ⟨_, rfl⟩
  rw [← hn] at hm ⊢
  rw [last_of hr]
  have HN := Lib.hid hn
  have HR := Lib.hid hr
  have HE := Lib.hid hel
  clear hn hr hel
  go_enter Try.func15, Try.ntmps15
  go_wp2
  go_loopw [9] (fun i wr => ∃ k : Nat, k ≤ n ∧ i = .int .i64 k ∧ Below w.heap.size w wr ∧ fnd c (l.drop k) = r) (fun i _ => n - (intOf i).toNat)
  case atStart => exact ⟨0, Nat.zero_le _, rfl, Below.refl _ _, HR.out⟩
  case round =>
    obtain ⟨k, hk, rfl, hb, hrk⟩ := hrel
    by_cases hlt : k < n
    · have hlt2 : (k : Int) < n := by omega
      have hkl : k < l.length := by rw [← HN.out]; exact hlt
      rcases HE.out with ⟨e, _⟩ | ⟨b, off, rfl, hat⟩
      · rw [e] at hkl; cases hkl
      · have hat3 := Lies.keep eS 42 hat (Keeps.of_below hb)
        have hc := at7 hat3 k hkl
        have hb3 := hat3.1
        rw [fnd_drop hkl] at hrk
        obtain ⟨⟨s1, s2, s3, s4, s5, s6, s7⟩, hs⟩ : ∃ s, l[k] = s := ⟨_, rfl⟩
        rw [hs] at hrk hc
        simp only at hrk hc
        obtain ⟨c0, c1, c2, c3, c4, c5, c6⟩ := hc
        clear hat hat3 hs
        by_cases e : s1 = c
        · have hd : (s1 == c) = true := by simpa using e
          rw [if_pos e] at hrk
          have HZ := Lib.hid hrk
          clear hrk e
          go_wp2
          go_ret
          exact ⟨by rw [← HZ.out]; rfl, nx hb (below1 _ _)⟩
        · have hd : (s1 == c) = false := by simpa using e
          rw [if_neg e] at hrk
          have HZ := Lib.hid hrk
          clear hrk e
          go_wp2
          go_roundw
          case rel => exact ⟨k + 1, by omega, by go_num, nx hb (below1 _ _), HZ.out⟩
          case measure => simp [intOf]; omega
    · obtain rfl : k = n := by omega
      have HZ : Hid (r = none) := Lib.hid (by rw [← hrk, HN.out, List.drop_length]; rfl)
      clear hrk
      go_wp2
      go_ret
      exact ⟨by rw [HZ.out]; rfl, hb⟩
theorem lookQ_cases (x s1 s2 s3 s4 s5 s6 s7 : Int) : ∃ r k, lookQ x (some (s1, s2, s3, s4, s5, s6, s7)) = (r, k) ∧ ((decide (s2 < x) = true ∧ r = z5 ∧ k = 8) ∨ (decide (s2 < x) = false ∧ decide (x < s2) = true ∧ r = z5 ∧ k = 13) ∨ (decide (s2 < x) = false ∧ decide (x < s2) = false ∧ r = (s3, s4, s5, s6, s7) ∧ k = 0)) := by
  unfold lookQ
  by_cases e1 : s2 < x
  · exact ⟨z5, 8, by simp [e1], .inl ⟨decide_eq_true e1, rfl, rfl⟩⟩
  · by_cases e2 : x < s2
    · exact ⟨z5, 13, by simp [e1, e2], .inr (.inl ⟨decide_eq_false e1, decide_eq_true e2, rfl, rfl⟩)⟩
    · exact ⟨_, 0, by simp [e1, e2], .inr (.inr ⟨decide_eq_false e1, decide_eq_false e2, rfl, rfl⟩)⟩
set_option maxHeartbeats 4000000 in
theorem rLook_any (B : Bs) (l : List Sn) (v : Value) (c x : Int) (w : World) (h : NL B l v w) (hm : l.length ≤ 1000000) :
    Calls Try.prog 10 #[v, .int .i64 c, .int .i64 x] w fun e w' => e = .returned (lkV (look c x l)) ∧ Below w.heap.size w w' := by
  obtain ⟨a, cp, rfl, hel⟩ := h
  obtain ⟨n, hn⟩ : ∃ n, n = l.length := ⟨_, rfl⟩
  obtain ⟨r, hr⟩ : ∃ r, fnd c l = r := ⟨_, rfl⟩
  rw [← hn] at hm ⊢
  rw [look_of hr]
  have HN := Lib.hid hn
  have HR := Lib.hid hr
  have HE := Lib.hid hel
  clear hn hr hel
  go_enter Try.func10, Try.ntmps10
  go_wp2
  obtain ⟨W, hW⟩ : ∃ W, W = w.alloc (.cells #[.int .i64 0, .int .i64 0, .int .i64 0, .int .i64 0, .int .i64 0] 25) := ⟨_, rfl⟩
  have hbW : Below w.heap.size w W := hW ▸ below1 w _
  have hz : w.heap.size < W.heap.size := by rw [hW]; simp
  have hpl : plain 5 W w.heap.size = true := by rw [hW]; simp [go_sem]
  have HP := Lib.hid hpl
  rw [← hW]
  clear hpl hW
  go_loopw [12] (fun i wr => ∃ k : Nat, k ≤ n ∧ i = .int .i64 k ∧ Below W.heap.size W wr ∧ fnd c (l.drop k) = r) (fun i _ => n - (intOf i).toNat)
  case atStart => exact ⟨0, Nat.zero_le _, rfl, Below.refl _ _, HR.out⟩
  case round =>
    obtain ⟨k, hk, rfl, hb, hrk⟩ := hrel
    have hz2 : w.heap.size < wr.heap.size := by have := hb.size; omega
    have hpi : plain 5 wr w.heap.size = true := by rw [(bcell hb).2.2.2 _ _ hz]; exact HP.out
    by_cases hlt : k < n
    · have hlt2 : (k : Int) < n := by omega
      have hkl : k < l.length := by rw [← HN.out]; exact hlt
      rcases HE.out with ⟨e, _⟩ | ⟨b, off, rfl, hat⟩
      · rw [e] at hkl; cases hkl
      · have hat3 := Lies.keep eS 42 hat (Keeps.of_below (nx hbW hb))
        have hc := at7 hat3 k hkl
        have hb3 := hat3.1
        rw [fnd_drop hkl] at hrk
        obtain ⟨⟨s1, s2, s3, s4, s5, s6, s7⟩, hs⟩ : ∃ s, l[k] = s := ⟨_, rfl⟩
        rw [hs] at hrk hc
        simp only at hrk hc
        obtain ⟨c0, c1, c2, c3, c4, c5, c6⟩ := hc
        clear hat hat3 hs
        by_cases e : s1 = c
        · have hd : (s1 != c) = false := by simpa using e
          rw [if_pos e] at hrk
          obtain ⟨t, kk, hl, hcs⟩ := lookQ_cases x s1 s2 s3 s4 s5 s6 s7
          have HZ : Hid (lookQ x r = (t, kk)) := Lib.hid (by rw [← hrk]; exact hl)
          clear hrk e hl
          rcases hcs with ⟨hd1, rfl, rfl⟩ | ⟨hd1, hd2, rfl, rfl⟩ | ⟨hd1, hd2, rfl, rfl⟩
          · go_wp2
            refine bodyPost_ret (v := lkV (z5, 8)) (ret_R2 Try.results10 _ _ rfl ?c1) rfl ⟨by rw [HZ.out], ?c2⟩
            case c1 => exact (row_past _ _ _ (by rw [setRow_size]; exact hz2)).trans (row_set _ hpi)
            case c2 => exact (below_setRow (nx hbW hb) (Nat.le_refl _) _).alloc (by rw [setRow_size]; omega) _
          · go_wp2
            refine bodyPost_ret (v := lkV (z5, 13)) (ret_R2 Try.results10 _ _ rfl ?c1) rfl ⟨by rw [HZ.out], ?c2⟩
            case c1 => exact (row_past _ _ _ (by rw [setRow_size]; exact hz2)).trans (row_set _ hpi)
            case c2 => exact (below_setRow (nx hbW hb) (Nat.le_refl _) _).alloc (by rw [setRow_size]; omega) _
          · go_wp2
            refine bodyPost_ret (v := lkV ((s3, s4, s5, s6, s7), 0)) (ret_R2 Try.results10 _ _ rfl ?c1) rfl ⟨by rw [HZ.out], ?c2⟩
            case c1 => exact (row_past _ _ _ (by rw [setRow_size]; exact hz2)).trans (row_set _ hpi)
            case c2 => exact (below_setRow (nx hbW hb) (Nat.le_refl _) _).alloc (by rw [setRow_size]; omega) _
        · have hd : (s1 != c) = true := by simpa using e
          rw [if_neg e] at hrk
          have HZ := Lib.hid hrk
          clear hrk e
          go_wp2
          go_roundw
          case rel => exact ⟨k + 1, by omega, by go_num, nx hb (below1 _ _), HZ.out⟩
          case measure => simp [intOf]; omega
    · obtain rfl : k = n := by omega
      have HZ : Hid (r = none) := Lib.hid (by rw [← hrk, HN.out, List.drop_length]; rfl)
      clear hrk
      go_wp2
      refine bodyPost_ret (v := lkV (z5, 8)) (ret_R2 Try.results10 _ _ rfl ?c3) rfl ⟨by rw [HZ.out]; rfl, ?c4⟩
      case c3 => exact row_set _ hpi
      case c4 => exact below_setRow (nx hbW hb) (Nat.le_refl _) _
end Go.Proofs.Ytigoemecphilkaa.Se
