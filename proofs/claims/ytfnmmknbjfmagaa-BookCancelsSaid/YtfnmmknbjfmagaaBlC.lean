/- Of the statements of layer 9: what awake's calls come to. -/
import Derived.Test.YtfnmmknbjfmagaaBkL
namespace Go.Proofs.Ytfnmmknbjfmagaa.Bk
open Go.Proofs.Ytfnmmknbjfmagaa.Le
abbrev bk0 : Bk := ([], [], 1)
abbrev bk1 : Bk := ([], [(10, [(1, 1, 2, 10, 5)])], 2)
abbrev bk2 : Bk := ([], [(10, [(1, 1, 2, 10, 5)]), (11, [(2, 2, 2, 11, 5)])], 3)
abbrev bk3 : Bk := ([], [(11, [(2, 2, 2, 11, 3)])], 3)
abbrev bk4 : Bk := ([], [], 3)
theorem aw1 : place bk0 1 2 10 5 true = (bk1, [], 5, 1, 0) := (place_tr right_new (by decide)).trans (by kernel_rfl)
theorem awR1 : RightB bk1 := by have := place_right (ow := 1) (s := 2) (p := 10) (q := 5) (rest := true) right_new; rw [aw1] at this; exact this
theorem aw2 : place bk1 2 2 11 5 true = (bk2, [], 5, 2, 0) := (place_tr awR1 (by decide)).trans (by kernel_rfl)
theorem awR2 : RightB bk2 := by have := place_right (ow := 2) (s := 2) (p := 11) (q := 5) (rest := true) awR1; rw [aw2] at this; exact this
theorem aw3 : place bk2 3 1 11 7 true = (bk3, [(1, 1, 10, 5, true), (2, 2, 11, 2, false)], 0, 0, 0) := (place_tr awR2 (by decide)).trans (by kernel_rfl)
theorem awR3 : RightB bk3 := by have := place_right (ow := 3) (s := 1) (p := 11) (q := 7) (rest := true) awR2; rw [aw3] at this; exact this
theorem aw4 : place bk2 1 1 10 1 true = (bk2, [], 0, 0, 11) := (place_tr awR2 (by decide)).trans (by kernel_rfl)
theorem aw5 : cancel bk3 2 2 = (bk4, some (2, 2, 2, 11, 3), 0) := by unfold cancel; rw [if_pos (rightB_iff.2 awR3)]; kernel_rfl
/-- The calls of the statements, one behind the other. -/
abbrev Op5 := Int × Int × Int × Int × Int
noncomputable def step (b : Bk) (o : Op5) : Bk := if o.1 = 2 then (cancel b o.2.1 o.2.2.2.1).1 else (place b o.2.1 o.2.2.1 o.2.2.2.1 o.2.2.2.2 (o.1 != 1)).1
noncomputable def playB (ops : List Op5) : Bk := ops.foldl step bk0
theorem step_right {b : Bk} {o : Op5} (h : RightB b) : RightB (step b o) := by
  unfold step
  split
  · exact cancel_right h
  · exact place_right h
theorem play_snoc (ops : List Op5) (o : Op5) : playB (ops ++ [o]) = step (playB ops) o := by unfold playB; rw [List.foldl_append]; rfl
theorem fold_right : ∀ (ops : List Op5) (b : Bk), RightB b → RightB (ops.foldl step b)
  | [], _, h => h
  | o :: r, b, h => fold_right r (step b o) (step_right h)
theorem play_right (ops : List Op5) : RightB (playB ops) := fold_right ops _ right_new
theorem len_flat {s : Int} : ∀ {l : List Lv}, (∀ v ∈ l, okLv s v) → l.length ≤ (flat l).length
  | [], _ => Nat.zero_le _
  | v :: r, h => by
    have h1 := (h v List.mem_cons_self).1
    have h2 := len_flat (l := r) fun x hx => h x (List.mem_cons_of_mem _ hx)
    have h3 := List.length_pos_iff.2 h1
    rw [flat_cons, List.length_append, List.length_cons]; omega
/-- A right book is a small one. -/
theorem right_small {b : Bk} (h : RightB b) : b.1.length ≤ 40 ∧ (flat b.1).length ≤ 40 ∧ b.2.1.length ≤ 40 ∧ (flat b.2.1).length ≤ 40 := by
  have h1 := len_flat h.buys.2.1
  have h2 := len_flat h.sells.2.1
  have h3 := h.cnt
  unfold cntB at h3
  omega
end Go.Proofs.Ytfnmmknbjfmagaa.Bk
