/- Package session as it landed: Last, Look. -/
import Derived.Test.YtigoemecphilkaaSfA
namespace Go.Proofs.Ytigoemecphilkaa.Se
open Go.RowKit
set_option linter.unusedVariables false
open Go.Proofs.Ytigoemecphilkaa.Rw
open Go.Proofs.Ytigoemecphilkaa.Da
theorem first_is {q : Option Sn} {c : Int} {l : List Sn} (H : Hid (fnd c l = q)) {B : Bs} {v : Value} {w : World} (h : NL B l v w) (hm : l.length ≤ 1000000) :
    Calls Try.prog 19 #[v, .int .i64 c] w fun e w' => e = .returned (fV q) ∧ Below w.heap.size w w' := by
  rw [← H.out]; exact first_any B l v c w h hm
def lastQ : Option Sn → Int
  | none => 0
  | some s => s.2.1
def lookQ (x : Int) : Option Sn → Rp × Int
  | none => (z5, 8)
  | some s => if s.2.1 < x then (z5, 8) else if x < s.2.1 then (z5, 13) else (s.2.2, 0)
theorem last_of {c : Int} {l : List Sn} {q : Option Sn} (h : fnd c l = q) : last c l = lastQ q := by unfold last; rw [h]; cases q <;> rfl
theorem look_of {c x : Int} {l : List Sn} {q : Option Sn} (h : fnd c l = q) : look c x l = lookQ x q := by unfold look; rw [h]; cases q <;> rfl
set_option maxHeartbeats 1000000 in
theorem last_any (B : Bs) (l : List Sn) (v : Value) (c : Int) (w : World) (h : NL B l v w) (hm : l.length ≤ 1000000) :
    Calls Try.prog 14 #[v, .int .i64 c] w fun e w' => e = .returned (.int .i64 (last c l)) ∧ Below w.heap.size w w' := by
  obtain ⟨q, hq⟩ : ∃ q, fnd c l = q := ⟨_, rfl⟩
  have H := Lib.hid hq
  have HL := Lib.hid (last_of hq)
  have HH := Lib.hid h
  clear hq h
  rcases q with _ | ⟨s1, s2, s3, s4, s5, s6, s7⟩
  · go_enter Try.func14, Try.ntmps14
    go_wp2_with fail
    refine (first_is H HH.out hm).mono ?_
    rintro e w1 ⟨rfl, hb1⟩
    unfold fV
    go_wp2
    go_ret
    exact ⟨ret_int HL.out.symm, nx hb1 (below1 _ _)⟩
  · go_enter Try.func14, Try.ntmps14
    go_wp2_with fail
    refine (first_is H HH.out hm).mono ?_
    rintro e w1 ⟨rfl, hb1⟩
    unfold fV
    go_wp2
    go_ret
    exact ⟨ret_int HL.out.symm, nx hb1 (below1 _ _)⟩
/-- A reply and a code. -/
def lkV (p : Rp × Int) : Value := .tuple #[.agg #[.int .i64 p.1.1, .int .i64 p.1.2.1, .int .i64 p.1.2.2.1, .int .i64 p.1.2.2.2.1, .int .i64 p.1.2.2.2.2], .int .i64 p.2]
set_option maxHeartbeats 2000000 in
theorem look_any (B : Bs) (l : List Sn) (v : Value) (c x : Int) (w : World) (h : NL B l v w) (hm : l.length ≤ 1000000) :
    Calls Try.prog 9 #[v, .int .i64 c, .int .i64 x] w fun e w' => e = .returned (lkV (look c x l)) ∧ Below w.heap.size w w' := by
  obtain ⟨q, hq⟩ : ∃ q, fnd c l = q := ⟨_, rfl⟩
  have H := Lib.hid hq
  have HL := Lib.hid (look_of (x := x) hq)
  clear hq
  obtain ⟨W, hW⟩ : ∃ W, W = w.alloc (.cells #[.int .i64 0, .int .i64 0, .int .i64 0, .int .i64 0, .int .i64 0] 25) := ⟨_, rfl⟩
  have hbW : Below w.heap.size w W := hW ▸ below1 w _
  have hz : w.heap.size < W.heap.size := by rw [hW]; simp
  have hpl : plain 5 W w.heap.size = true := by rw [hW]; simp [go_sem]
  have HW := Lib.hid hW
  have HH := Lib.hid (Is.stays eS 42 h hbW)
  clear hW h
  rcases q with _ | ⟨s1, s2, s3, s4, s5, s6, s7⟩
  · go_enter Try.func9, Try.ntmps9
    go_wp2_with fail
    rw [← HW.out]
    refine (first_is H HH.out hm).mono ?_
    rintro e w1 ⟨rfl, hb1⟩
    have hz1 : w.heap.size < w1.heap.size := by have := hb1.size; omega
    have hp1 : plain 5 w1 w.heap.size = true := by rw [(bcell hb1).2.2.2 _ _ hz]; exact hpl
    unfold fV
    go_wp2
    refine bodyPost_ret (v := lkV (z5, 8)) (ret_R2 Try.results9 _ _ rfl ?c1) rfl ⟨by rw [HL.out]; rfl, ?c2⟩
    case c1 => exact (row_past _ _ _ (by rw [setRow_size]; exact hz1)).trans (row_set _ hp1)
    case c2 => exact (below_setRow (nx hbW hb1) (Nat.le_refl _) _).alloc (by rw [setRow_size]; omega) _
  · have h3 : ∃ r k, look c x l = (r, k) ∧ ((decide (s2 < x) = true ∧ r = z5 ∧ k = 8) ∨ (decide (s2 < x) = false ∧ decide (x < s2) = true ∧ r = z5 ∧ k = 13) ∨ (decide (s2 < x) = false ∧ decide (x < s2) = false ∧ r = (s3, s4, s5, s6, s7) ∧ k = 0)) := by
      rw [HL.out]
      unfold lookQ
      by_cases e1 : s2 < x
      · exact ⟨z5, 8, by simp [e1], .inl ⟨decide_eq_true e1, rfl, rfl⟩⟩
      · by_cases e2 : x < s2
        · exact ⟨z5, 13, by simp [e1, e2], .inr (.inl ⟨decide_eq_false e1, decide_eq_true e2, rfl, rfl⟩)⟩
        · exact ⟨_, 0, by simp [e1, e2], .inr (.inr ⟨decide_eq_false e1, decide_eq_false e2, rfl, rfl⟩)⟩
    obtain ⟨r, k, hl, hcs⟩ := h3
    rw [hl]
    clear HL hl
    obtain ⟨hd1, rfl, rfl⟩ | ⟨hd1, hd2, rfl, rfl⟩ | ⟨hd1, hd2, rfl, rfl⟩ := hcs
    all_goals
      go_enter Try.func9, Try.ntmps9
      go_wp2_with fail
      rw [← HW.out]
      refine (first_is H HH.out hm).mono ?_
      rintro e w1 ⟨rfl, hb1⟩
      have hz1 : w.heap.size < w1.heap.size := by have := hb1.size; omega
      have hp1 : plain 5 w1 w.heap.size = true := by rw [(bcell hb1).2.2.2 _ _ hz]; exact hpl
      unfold fV
      go_wp2
    · refine bodyPost_ret (v := lkV (z5, 8)) (ret_R2 Try.results9 _ _ rfl ?c1) rfl ⟨rfl, ?c2⟩
      case c1 => exact (row_past _ _ _ (by rw [setRow_size]; exact hz1)).trans (row_set _ hp1)
      case c2 => exact (below_setRow (nx hbW hb1) (Nat.le_refl _) _).alloc (by rw [setRow_size]; omega) _
    · refine bodyPost_ret (v := lkV (z5, 13)) (ret_R2 Try.results9 _ _ rfl ?c1) rfl ⟨rfl, ?c2⟩
      case c1 => exact (row_past _ _ _ (by rw [setRow_size]; exact hz1)).trans (row_set _ hp1)
      case c2 => exact (below_setRow (nx hbW hb1) (Nat.le_refl _) _).alloc (by rw [setRow_size]; omega) _
    · refine bodyPost_ret (v := lkV ((s3, s4, s5, s6, s7), 0)) (ret_R2 Try.results9 _ _ rfl ?c1) rfl ⟨rfl, ?c2⟩
      case c1 => exact (row_past _ _ _ (by rw [setRow_size]; exact hz1)).trans (row_set _ hp1)
      case c2 => exact (below_setRow (nx hbW hb1) (Nat.le_refl _) _).alloc (by rw [setRow_size]; omega) _
end Go.Proofs.Ytigoemecphilkaa.Se
