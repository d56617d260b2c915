/- Package level as it landed: within, mayRest, isEmpty, aheadOn and its closure. -/
import Derived.Test.YtmpkindlanadbaaLeE
namespace Go.Proofs.Ytmpkindlanadbaa.Le
open Go.RowKit
set_option linter.unusedVariables false
open Go.Proofs.Ytmpkindlanadbaa.Rw
open Go.Proofs.Ytmpkindlanadbaa.Da
def btw (n a b : Int) : Bool := decide (a ≤ n ∧ n ≤ b)
set_option maxHeartbeats 400000 in
theorem within_any (n a b : Int) (w : World) : Calls Try.prog 40 #[.int .i64 n, .int .i64 a, .int .i64 b] w fun e w' => e = .returned (.bool (btw n a b)) ∧ w = w' := by
  obtain ⟨q, hq⟩ : ∃ q, btw n a b = q := ⟨_, rfl⟩
  rw [hq]
  have H := Lib.hid hq
  clear hq
  go_enter Try.func40, Try.ntmps40
  go_wp2
  all_goals
    go_ret
    exact ⟨ret_bool (by rw [← H.out]; unfold btw; rw [Bool.eq_iff_iff]; simp; try omega), rfl⟩
theorem within_is {n a b : Int} {r : Bool} (h : Hid (btw n a b = r)) (w : World) : Calls Try.prog 40 #[.int .i64 n, .int .i64 a, .int .i64 b] w fun e w' => e = .returned (.bool r) ∧ w = w' := by
  rw [← h.out]; exact within_any n a b w
theorem omay_btw (a b c d e s : Int) : omay (a, b, c, d, e) s = (decide (c = s) && btw a 1 1073741824 && btw b 0 63 && btw d 1 1048576 && btw e 1 1048576) := by
  rw [Bool.eq_iff_iff]; unfold omay btw; simp; omega
set_option maxHeartbeats 1000000 in
theorem mayRest_any (a b c d e s : Int) (w : World) : Calls Try.prog 25 #[.agg #[.int .i64 a, .int .i64 b, .int .i64 c, .int .i64 d, .int .i64 e], .int .i64 s] w fun r w' => r = .returned (.bool (omay (a, b, c, d, e) s)) ∧ Below w.heap.size w w' := by
  rw [omay_btw]
  obtain ⟨q1, h1⟩ : ∃ q, btw a 1 1073741824 = q := ⟨_, rfl⟩
  obtain ⟨q2, h2⟩ : ∃ q, btw b 0 63 = q := ⟨_, rfl⟩
  obtain ⟨q3, h3⟩ : ∃ q, btw d 1 1048576 = q := ⟨_, rfl⟩
  obtain ⟨q4, h4⟩ : ∃ q, btw e 1 1048576 = q := ⟨_, rfl⟩
  rw [h1, h2, h3, h4]
  have H1 := Lib.hid h1
  have H2 := Lib.hid h2
  have H3 := Lib.hid h3
  have H4 := Lib.hid h4
  clear h1 h2 h3 h4
  by_cases hc : c = s
  · have hd : (c == s) = true := by simpa using hc
    have HD : Hid (decide (c = s) = true) := Lib.hid (by simpa using hc)
    clear hc
    cases q1 <;> cases q2 <;> cases q3 <;> cases q4
    all_goals
      go_enter Try.func25, Try.ntmps25
      go_wp2_with (go_at_call 40; (first | with_reducible refine (within_is H1 _).mono ?_ | with_reducible refine (within_is H2 _).mono ?_ | with_reducible refine (within_is H3 _).mono ?_ | with_reducible refine (within_is H4 _).mono ?_); rintro e w' ⟨rfl, rfl⟩)
      go_ret
      exact ⟨ret_bool (by rw [HD.out]; rfl), below1 _ _⟩
  · have hd : (c == s) = false := by simpa using hc
    have HD : Hid (decide (c = s) = false) := Lib.hid (by simpa using hc)
    clear hc
    go_enter Try.func25, Try.ntmps25
    go_wp2
    go_ret
    exact ⟨ret_bool (by rw [HD.out]; rfl), below1 _ _⟩
theorem mayRest_is {a b c d e s : Int} {r : Bool} (h : Hid (omay (a, b, c, d, e) s = r)) (w : World) : Calls Try.prog 25 #[.agg #[.int .i64 a, .int .i64 b, .int .i64 c, .int .i64 d, .int .i64 e], .int .i64 s] w fun x w' => x = .returned (.bool r) ∧ Below w.heap.size w w' := by
  rw [← h.out]; exact mayRest_any a b c d e s w
set_option maxHeartbeats 400000 in
theorem isEmpty_any (p : Int) (a : Option Addr) (n c : Nat) (hn : n ≤ 1000000) (w : World) : Calls Try.prog 37 #[.agg #[.int .i64 p, .slice a n c]] w fun e w' => e = .returned (.bool (decide (n = 0))) ∧ Below w.heap.size w w' := by
  rcases Nat.eq_zero_or_pos n with h | h
  · subst h
    go_enter Try.func37, Try.ntmps37
    go_wp2
    go_ret
    exact ⟨rfl, below1 _ _⟩
  · have hd : ((n : Int) == 0) = false := by simp; omega
    have H : Hid (decide (n = 0) = false) := Lib.hid (by simp; omega)
    go_enter Try.func37, Try.ntmps37
    go_wp2
    go_ret
    exact ⟨ret_bool H.out.symm, below1 _ _⟩
/-- A function that tells which of two prices stands ahead on side s. -/
def Ahd (s : Int) (v : Value) (w : World) : Prop := ∃ b, v = .func (.func 41) #[] #[.pointer (some ⟨b, 0, none⟩)] ∧ b < w.heap.size ∧ w.cell? ⟨b, 0, none⟩ = some (.int .i64 s)
theorem Ahd.stays {s : Int} {v : Value} {w w' : World} (h : Ahd s v w) (hb : Below w.heap.size w w') : Ahd s v w' := by
  obtain ⟨b, hv, h1, h2⟩ := h
  exact ⟨b, hv, Nat.lt_of_lt_of_le h1 hb.size, (hb.cell (p := ⟨b, 0, none⟩) h1).trans h2⟩
set_option maxHeartbeats 400000 in
theorem aheadOn_any (s : Int) (w : World) : Calls Try.prog 26 #[.int .i64 s] w (Post (Ahd s) w) := by
  go_enter Try.func26, Try.ntmps26
  go_wp2
  go_ret
  exact ⟨_, rfl, below1 _ _, w.heap.size, rfl, by simp, by simp [go_sem]⟩
set_option maxHeartbeats 400000 in
theorem ahead_any (s a b : Int) (g : Nat) (w : World) (hg : g < w.heap.size) (hc : w.cell? ⟨g, 0, none⟩ = some (.int .i64 s)) : Calls Try.prog 41 #[.int .i64 a, .int .i64 b, .pointer (some ⟨g, 0, none⟩)] w fun e w' => e = .returned (.bool (ahead s a b)) ∧ w = w' := by
  by_cases h : s = 1
  · have hd : (s == 1) = true := by simpa using h
    have H : Hid (ahead s a b = decide (b < a)) := Lib.hid (if_pos h)
    clear h
    go_enter Try.func41, Try.ntmps41
    go_wp2
    go_ret
    exact ⟨ret_bool H.out.symm, rfl⟩
  · have hd : (s == 1) = false := by simpa using h
    have H : Hid (ahead s a b = decide (a < b)) := Lib.hid (if_neg h)
    clear h
    go_enter Try.func41, Try.ntmps41
    go_wp2
    go_ret
    exact ⟨ret_bool H.out.symm, rfl⟩
end Go.Proofs.Ytmpkindlanadbaa.Le
