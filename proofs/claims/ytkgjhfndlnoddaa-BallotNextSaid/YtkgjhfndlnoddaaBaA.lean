/- Valid, Later, First of package ballot; the document's own. -/
import Derived.Test.YtkgjhfndlnoddaaRows
import Derived.WalkKit
import Derived.ProofKit
import Derived.Below
import Derived.Lib.Hide
import Derived.WalkLawsBesides
import Derived.WalkSpells
import Derived.BigQuiet
import Derived.Deep.QuietTactic
import Derived.Test.YtkgjhfndlnoddaaBaPure
import Derived.Test.YtkgjhfndlnoddaaFxPure
namespace Go.Proofs.Ytkgjhfndlnoddaa.Ba
open Go.RowKit
set_option linter.unusedVariables false
open Go.Proofs.Ytkgjhfndlnoddaa.Fx (nx nd)
theorem below1 (w : World) (o : Obj) : Below w.heap.size w (w.alloc o) := (Below.refl _ _).alloc (Nat.le_refl _) _
set_option maxHeartbeats 400000 in
theorem valid_any (n r : Int) (w : World) :
    Calls Try.prog 8 #[.agg #[.int .i64 n, .int .i64 r]] w fun e w' => e = .returned (.bool (valB n r)) ∧ Below w.heap.size w w' := by
  by_cases h0 : 0 ≤ n
  · by_cases h1 : n ≤ 1073741824
    · by_cases h2 : 0 ≤ r
      · by_cases h3 : r < 7
        · have H := Lib.hid (valB_iff.2 ⟨h0, h1, h2, h3⟩)
          go_enter Try.func8, Try.ntmps8
          go_wp2
          go_ret
          exact ⟨by rw [H.out]; rfl, below1 _ _⟩
        · have H := Lib.hid (valB_no (n := n) (r := r) (by omega))
          have hd : decide (r < 7) = false := by simpa using h3
          go_enter Try.func8, Try.ntmps8
          go_wp2
          go_ret
          exact ⟨by rw [H.out]; rfl, below1 _ _⟩
      · have H := Lib.hid (valB_no (n := n) (r := r) (by omega))
        have hd : decide (0 ≤ r) = false := by simpa using h2
        go_enter Try.func8, Try.ntmps8
        go_wp2
        go_ret
        exact ⟨by rw [H.out]; rfl, below1 _ _⟩
    · have H := Lib.hid (valB_no (n := n) (r := r) (by omega))
      have hd : decide (n ≤ 1073741824) = false := by simpa using h1
      go_enter Try.func8, Try.ntmps8
      go_wp2
      go_ret
      exact ⟨by rw [H.out]; rfl, below1 _ _⟩
  · have H := Lib.hid (valB_no (n := n) (r := r) (by omega))
    have hd : decide (0 ≤ n) = false := by simpa using h0
    go_enter Try.func8, Try.ntmps8
    go_wp2
    go_ret
    exact ⟨by rw [H.out]; rfl, below1 _ _⟩
set_option maxHeartbeats 400000 in
theorem rValid_any (n r : Int) (w : World) :
    Calls Try.prog 9 #[.agg #[.int .i64 n, .int .i64 r]] w fun e w' => e = .returned (.bool (valB n r)) ∧ Below w.heap.size w w' := by
  by_cases h0 : 0 ≤ n
  · by_cases h1 : n ≤ 1073741824
    · by_cases h2 : 0 ≤ r
      · by_cases h3 : r < 7
        · have H := Lib.hid (valB_iff.2 ⟨h0, h1, h2, h3⟩)
          go_enter Try.func9, Try.ntmps9
          go_wp2
          go_ret
          exact ⟨by rw [H.out]; rfl, below1 _ _⟩
        · have H := Lib.hid (valB_no (n := n) (r := r) (by omega))
          have hd : decide (r < 7) = false := by simpa using h3
          go_enter Try.func9, Try.ntmps9
          go_wp2
          go_ret
          exact ⟨by rw [H.out]; rfl, below1 _ _⟩
      · have H := Lib.hid (valB_no (n := n) (r := r) (by omega))
        have hd : decide (0 ≤ r) = false := by simpa using h2
        go_enter Try.func9, Try.ntmps9
        go_wp2
        go_ret
        exact ⟨by rw [H.out]; rfl, below1 _ _⟩
    · have H := Lib.hid (valB_no (n := n) (r := r) (by omega))
      have hd : decide (n ≤ 1073741824) = false := by simpa using h1
      go_enter Try.func9, Try.ntmps9
      go_wp2
      go_ret
      exact ⟨by rw [H.out]; rfl, below1 _ _⟩
  · have H := Lib.hid (valB_no (n := n) (r := r) (by omega))
    have hd : decide (0 ≤ n) = false := by simpa using h0
    go_enter Try.func9, Try.ntmps9
    go_wp2
    go_ret
    exact ⟨by rw [H.out]; rfl, below1 _ _⟩
set_option maxHeartbeats 800000 in
theorem later_any (a b c d : Int) (w : World) :
    Calls Try.prog 14 #[.agg #[.int .i64 a, .int .i64 b], .agg #[.int .i64 c, .int .i64 d]] w fun e w' => e = .returned (.agg #[.int .i64 (latN a b c d), .int .i64 (latR a b c d)]) ∧ Below w.heap.size w w' := by
  by_cases h0 : c < a
  · have H : Hid (latN a b c d = a ∧ latR a b c d = b) := Lib.hid (by unfold latN latR; rw [if_pos (lessB_iff.2 (.inl h0)), if_pos (lessB_iff.2 (.inl h0))]; exact ⟨rfl, rfl⟩)
    rw [H.out.1, H.out.2]
    go_enter Try.func14, Try.ntmps14
    go_wp2
    exact bodyPost_ret (v := .agg #[.int .i64 a, .int .i64 b]) (by simp [results, Try.results14, go_sem]) rfl ⟨rfl, nx (nx (below1 _ _) (below1 _ _)) (below1 _ _)⟩
  · have hd : decide (c < a) = false := by simpa using h0
    by_cases h1 : a = c
    · subst h1
      by_cases h2 : d < b
      · have H : Hid (latN a b a d = a ∧ latR a b a d = b) := Lib.hid (by unfold latN latR; rw [if_pos (lessB_iff.2 (.inr ⟨rfl, h2⟩)), if_pos (lessB_iff.2 (.inr ⟨rfl, h2⟩))]; exact ⟨rfl, rfl⟩)
        rw [H.out.1, H.out.2]
        go_enter Try.func14, Try.ntmps14
        go_wp2
        exact bodyPost_ret (v := .agg #[.int .i64 a, .int .i64 b]) (by simp [results, Try.results14, go_sem]) rfl ⟨rfl, nx (nx (below1 _ _) (below1 _ _)) (below1 _ _)⟩
      · have hd2 : decide (d < b) = false := by simpa using h2
        have hn : ¬ lessB a d a b = true := fun x => by have := lessB_iff.1 x; omega
        have H : Hid (latN a b a d = a ∧ latR a b a d = d) := Lib.hid (by unfold latN latR; rw [if_neg hn, if_neg hn]; exact ⟨rfl, rfl⟩)
        clear hn
        rw [H.out.1, H.out.2]
        go_enter Try.func14, Try.ntmps14
        go_wp2
        exact bodyPost_ret (v := .agg #[.int .i64 a, .int .i64 d]) (by simp [results, Try.results14, go_sem]) rfl ⟨rfl, nx (nx (below1 _ _) (below1 _ _)) (below1 _ _)⟩
    · have hd1 : (a == c) = false := by simpa using h1
      have hn : ¬ lessB c d a b = true := fun x => by have := lessB_iff.1 x; omega
      have H : Hid (latN a b c d = c ∧ latR a b c d = d) := Lib.hid (by unfold latN latR; rw [if_neg hn, if_neg hn]; exact ⟨rfl, rfl⟩)
      clear hn
      rw [H.out.1, H.out.2]
      go_enter Try.func14, Try.ntmps14
      go_wp2
      exact bodyPost_ret (v := .agg #[.int .i64 c, .int .i64 d]) (by simp [results, Try.results14, go_sem]) rfl ⟨rfl, nx (nx (below1 _ _) (below1 _ _)) (below1 _ _)⟩
set_option maxHeartbeats 400000 in
theorem first_any (p : Int) (w : World) :
    Calls Try.prog 12 #[.int .i64 p] w fun e w' => e = .returned (.agg #[.int .i64 0, .int .i64 p]) ∧ Below w.heap.size w w' := by
  go_enter Try.func12, Try.ntmps12
  go_wp2
  exact bodyPost_ret (v := .agg #[.int .i64 0, .int .i64 p]) (by simp [results, Try.results12, go_sem]) rfl ⟨rfl, below1 _ _⟩
set_option maxHeartbeats 400000 in
theorem rFirst_any (p : Int) (w : World) :
    Calls Try.prog 13 #[.int .i64 p] w fun e w' => e = .returned (.agg #[.int .i64 0, .int .i64 p]) ∧ Below w.heap.size w w' := by
  go_enter Try.func13, Try.ntmps13
  go_wp2
  exact bodyPost_ret (v := .agg #[.int .i64 0, .int .i64 p]) (by simp [results, Try.results13, go_sem]) rfl ⟨rfl, below1 _ _⟩
set_option maxHeartbeats 400000 in
theorem rLess_any (a b c d : Int) (w : World) :
    Calls Try.prog 11 #[.agg #[.int .i64 a, .int .i64 b], .agg #[.int .i64 c, .int .i64 d]] w fun e w' => e = .returned (.bool (lessB a b c d)) ∧ Below w.heap.size w w' := by
  by_cases h0 : a = c
  · subst h0
    have hd : decide (b < d) = lessB a b a d := by unfold lessB; simp
    have H := Lib.hid hd
    clear hd
    go_enter Try.func11, Try.ntmps11
    go_wp2
    go_ret
    exact ⟨by rw [← H.out]; rfl, nx (below1 _ _) (below1 _ _)⟩
  · have hd : decide (a < c) = lessB a b c d := by unfold lessB; simp [h0]
    have H := Lib.hid hd
    have hd1 : (a == c) = false := by simpa using h0
    clear hd
    go_enter Try.func11, Try.ntmps11
    go_wp2
    go_ret
    exact ⟨by rw [← H.out]; rfl, nx (below1 _ _) (below1 _ _)⟩
end Go.Proofs.Ytkgjhfndlnoddaa.Ba
