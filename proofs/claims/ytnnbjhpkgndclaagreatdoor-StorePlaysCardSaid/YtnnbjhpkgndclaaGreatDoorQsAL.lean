/- Check of package command, and the document's own. -/
import Derived.Test.YtnnbjhpkgndclaaGreatDoorQsZZ
import Derived.Test.YtnnbjhpkgndclaaGreatDoorQsAI
import Derived.Lib.Builder
import Derived.Lib.AppendStr
import Derived.Lib.Slices
import Derived.Laws.Externs
import Derived.Shelf.Strings.Builder1
import Derived.Test.YtnnbjhpkgndclaaGreatDoorQsAE
import Derived.Test.YtnnbjhpkgndclaaGreatDoorQsAC
import Derived.Lib.UnsafeStr
import Derived.Test.YtnnbjhpkgndclaaGreatDoorQsAJ
import Derived.Test.YtnnbjhpkgndclaaGreatDoorQsAK
import Derived.ChangeSame
import Derived.OpenShut
import Derived.LaidMore
import Derived.Lib.LaidTab
import Derived.Lib.SmallJoins
import Derived.Stop.Joined
set_option linter.unusedVariables false
namespace Go.Proofs.YtnnbjhpkgndclaaGreatDoor.Cm
open Go.RowKit
open Go.Proofs.YtnnbjhpkgndclaaGreatDoor.Rw
open Go.Proofs.YtnnbjhpkgndclaaGreatDoor.Fx (ret_v ret_bool ret_int)
set_option maxHeartbeats 800000 in
theorem lim_0 (c : Nat → Int) (w : World) (h0 : wi (c 2) 1 8 = false) :
    Calls Tryz.prog 155 #[.agg (fc c)] w fun e w' => e = .returned (.bool false) ∧ Below w.heap.size w w' := by
  have H0 := lH h0
  clear h0
  go_enter Tryz.func155,Tryz.ntmps155
  go_wp2_with fail
  refine (within_is H0 _).mono ?_
  rintro e w' ⟨rfl,rfl⟩
  go_wp2
  go_ret
  exact ⟨rfl,below1 _ _⟩
set_option maxHeartbeats 800000 in
theorem lim_1 (c : Nat → Int) (w : World) (h0 : wi (c 2) 1 8 = true) (h1 : wi (c 0) 0 63 = false) :
    Calls Tryz.prog 155 #[.agg (fc c)] w fun e w' => e = .returned (.bool false) ∧ Below w.heap.size w w' := by
  have H0 := lH h0
  have H1 := lH h1
  clear h0 h1
  go_enter Tryz.func155,Tryz.ntmps155
  go_wp2_with fail
  refine (within_is H0 _).mono ?_
  rintro e w' ⟨rfl,rfl⟩
  go_wp2_with fail
  refine (within_is H1 _).mono ?_
  rintro e w' ⟨rfl,rfl⟩
  go_wp2
  go_ret
  exact ⟨rfl,below1 _ _⟩
set_option maxHeartbeats 800000 in
theorem lim_2 (c : Nat → Int) (w : World) (h0 : wi (c 2) 1 8 = true) (h1 : wi (c 0) 0 63 = true) (h2 : wi (c 1) 1 1125899906842624 = false) :
    Calls Tryz.prog 155 #[.agg (fc c)] w fun e w' => e = .returned (.bool false) ∧ Below w.heap.size w w' := by
  have H0 := lH h0
  have H1 := lH h1
  have H2 := lH h2
  clear h0 h1 h2
  go_enter Tryz.func155,Tryz.ntmps155
  go_wp2_with fail
  refine (within_is H0 _).mono ?_
  rintro e w' ⟨rfl,rfl⟩
  go_wp2_with fail
  refine (within_is H1 _).mono ?_
  rintro e w' ⟨rfl,rfl⟩
  go_wp2_with fail
  refine (within_is H2 _).mono ?_
  rintro e w' ⟨rfl,rfl⟩
  go_wp2
  go_ret
  exact ⟨rfl,below1 _ _⟩
set_option maxHeartbeats 800000 in
theorem lim_3 (c : Nat → Int) (w : World) (h0 : wi (c 2) 1 8 = true) (h1 : wi (c 0) 0 63 = true) (h2 : wi (c 1) 1 1125899906842624 = true) (h3 : wi (c 3) 0 5 = false) :
    Calls Tryz.prog 155 #[.agg (fc c)] w fun e w' => e = .returned (.bool false) ∧ Below w.heap.size w w' := by
  have H0 := lH h0
  have H1 := lH h1
  have H2 := lH h2
  have H3 := lH h3
  clear h0 h1 h2 h3
  go_enter Tryz.func155,Tryz.ntmps155
  go_wp2_with fail
  refine (within_is H0 _).mono ?_
  rintro e w' ⟨rfl,rfl⟩
  go_wp2_with fail
  refine (within_is H1 _).mono ?_
  rintro e w' ⟨rfl,rfl⟩
  go_wp2_with fail
  refine (within_is H2 _).mono ?_
  rintro e w' ⟨rfl,rfl⟩
  go_wp2_with fail
  refine (within_is H3 _).mono ?_
  rintro e w' ⟨rfl,rfl⟩
  go_wp2
  go_ret
  exact ⟨rfl,below1 _ _⟩
set_option maxHeartbeats 800000 in
theorem lim_4 (c : Nat → Int) (w : World) (h0 : wi (c 2) 1 8 = true) (h1 : wi (c 0) 0 63 = true) (h2 : wi (c 1) 1 1125899906842624 = true) (h3 : wi (c 3) 0 5 = true) (h4 : wi (c 4) 0 7 = false) :
    Calls Tryz.prog 155 #[.agg (fc c)] w fun e w' => e = .returned (.bool false) ∧ Below w.heap.size w w' := by
  have H0 := lH h0
  have H1 := lH h1
  have H2 := lH h2
  have H3 := lH h3
  have H4 := lH h4
  clear h0 h1 h2 h3 h4
  go_enter Tryz.func155,Tryz.ntmps155
  go_wp2_with fail
  refine (within_is H0 _).mono ?_
  rintro e w' ⟨rfl,rfl⟩
  go_wp2_with fail
  refine (within_is H1 _).mono ?_
  rintro e w' ⟨rfl,rfl⟩
  go_wp2_with fail
  refine (within_is H2 _).mono ?_
  rintro e w' ⟨rfl,rfl⟩
  go_wp2_with fail
  refine (within_is H3 _).mono ?_
  rintro e w' ⟨rfl,rfl⟩
  go_wp2_with fail
  refine (within_is H4 _).mono ?_
  rintro e w' ⟨rfl,rfl⟩
  go_wp2
  go_ret
  exact ⟨rfl,below1 _ _⟩
set_option maxHeartbeats 800000 in
theorem lim_5 (c : Nat → Int) (w : World) (h0 : wi (c 2) 1 8 = true) (h1 : wi (c 0) 0 63 = true) (h2 : wi (c 1) 1 1125899906842624 = true) (h3 : wi (c 3) 0 5 = true) (h4 : wi (c 4) 0 7 = true) (h5 : wi (c 5) 0 1073741824 = false) :
    Calls Tryz.prog 155 #[.agg (fc c)] w fun e w' => e = .returned (.bool false) ∧ Below w.heap.size w w' := by
  have H0 := lH h0
  have H1 := lH h1
  have H2 := lH h2
  have H3 := lH h3
  have H4 := lH h4
  have H5 := lH h5
  clear h0 h1 h2 h3 h4 h5
  go_enter Tryz.func155,Tryz.ntmps155
  go_wp2_with fail
  refine (within_is H0 _).mono ?_
  rintro e w' ⟨rfl,rfl⟩
  go_wp2_with fail
  refine (within_is H1 _).mono ?_
  rintro e w' ⟨rfl,rfl⟩
  go_wp2_with fail
  refine (within_is H2 _).mono ?_
  rintro e w' ⟨rfl,rfl⟩
  go_wp2_with fail
  refine (within_is H3 _).mono ?_
  rintro e w' ⟨rfl,rfl⟩
  go_wp2_with fail
  refine (within_is H4 _).mono ?_
  rintro e w' ⟨rfl,rfl⟩
  go_wp2_with fail
  refine (within_is H5 _).mono ?_
  rintro e w' ⟨rfl,rfl⟩
  go_wp2
  go_ret
  exact ⟨rfl,below1 _ _⟩
set_option maxHeartbeats 800000 in
theorem lim_6 (c : Nat → Int) (w : World) (h0 : wi (c 2) 1 8 = true) (h1 : wi (c 0) 0 63 = true) (h2 : wi (c 1) 1 1125899906842624 = true) (h3 : wi (c 3) 0 5 = true) (h4 : wi (c 4) 0 7 = true) (h5 : wi (c 5) 0 1073741824 = true) (h6 : wi (c 6) 0 2 = false) :
    Calls Tryz.prog 155 #[.agg (fc c)] w fun e w' => e = .returned (.bool false) ∧ Below w.heap.size w w' := by
  have H0 := lH h0
  have H1 := lH h1
  have H2 := lH h2
  have H3 := lH h3
  have H4 := lH h4
  have H5 := lH h5
  have H6 := lH h6
  clear h0 h1 h2 h3 h4 h5 h6
  go_enter Tryz.func155,Tryz.ntmps155
  go_wp2_with fail
  refine (within_is H0 _).mono ?_
  rintro e w' ⟨rfl,rfl⟩
  go_wp2_with fail
  refine (within_is H1 _).mono ?_
  rintro e w' ⟨rfl,rfl⟩
  go_wp2_with fail
  refine (within_is H2 _).mono ?_
  rintro e w' ⟨rfl,rfl⟩
  go_wp2_with fail
  refine (within_is H3 _).mono ?_
  rintro e w' ⟨rfl,rfl⟩
  go_wp2_with fail
  refine (within_is H4 _).mono ?_
  rintro e w' ⟨rfl,rfl⟩
  go_wp2_with fail
  refine (within_is H5 _).mono ?_
  rintro e w' ⟨rfl,rfl⟩
  go_wp2_with fail
  refine (within_is H6 _).mono ?_
  rintro e w' ⟨rfl,rfl⟩
  go_wp2
  go_ret
  exact ⟨rfl,below1 _ _⟩
set_option maxHeartbeats 800000 in
theorem lim_7 (c : Nat → Int) (w : World) (h0 : wi (c 2) 1 8 = true) (h1 : wi (c 0) 0 63 = true) (h2 : wi (c 1) 1 1125899906842624 = true) (h3 : wi (c 3) 0 5 = true) (h4 : wi (c 4) 0 7 = true) (h5 : wi (c 5) 0 1073741824 = true) (h6 : wi (c 6) 0 2 = true) (h7 : wi (c 7) 0 1125899906842624 = false) :
    Calls Tryz.prog 155 #[.agg (fc c)] w fun e w' => e = .returned (.bool false) ∧ Below w.heap.size w w' := by
  have H0 := lH h0
  have H1 := lH h1
  have H2 := lH h2
  have H3 := lH h3
  have H4 := lH h4
  have H5 := lH h5
  have H6 := lH h6
  have H7 := lH h7
  clear h0 h1 h2 h3 h4 h5 h6 h7
  go_enter Tryz.func155,Tryz.ntmps155
  go_wp2_with fail
  refine (within_is H0 _).mono ?_
  rintro e w' ⟨rfl,rfl⟩
  go_wp2_with fail
  refine (within_is H1 _).mono ?_
  rintro e w' ⟨rfl,rfl⟩
  go_wp2_with fail
  refine (within_is H2 _).mono ?_
  rintro e w' ⟨rfl,rfl⟩
  go_wp2_with fail
  refine (within_is H3 _).mono ?_
  rintro e w' ⟨rfl,rfl⟩
  go_wp2_with fail
  refine (within_is H4 _).mono ?_
  rintro e w' ⟨rfl,rfl⟩
  go_wp2_with fail
  refine (within_is H5 _).mono ?_
  rintro e w' ⟨rfl,rfl⟩
  go_wp2_with fail
  refine (within_is H6 _).mono ?_
  rintro e w' ⟨rfl,rfl⟩
  go_wp2_with fail
  refine (within_is H7 _).mono ?_
  rintro e w' ⟨rfl,rfl⟩
  go_wp2
  go_ret
  exact ⟨rfl,below1 _ _⟩
set_option maxHeartbeats 800000 in
theorem lim_8 (c : Nat → Int) (w : World) (h0 : wi (c 2) 1 8 = true) (h1 : wi (c 0) 0 63 = true) (h2 : wi (c 1) 1 1125899906842624 = true) (h3 : wi (c 3) 0 5 = true) (h4 : wi (c 4) 0 7 = true) (h5 : wi (c 5) 0 1073741824 = true) (h6 : wi (c 6) 0 2 = true) (h7 : wi (c 7) 0 1125899906842624 = true) (h8 : wi (c 8) 0 1125899906842624 = false) :
    Calls Tryz.prog 155 #[.agg (fc c)] w fun e w' => e = .returned (.bool false) ∧ Below w.heap.size w w' := by
  have H0 := lH h0
  have H1 := lH h1
  have H2 := lH h2
  have H3 := lH h3
  have H4 := lH h4
  have H5 := lH h5
  have H6 := lH h6
  have H7 := lH h7
  have H8 := lH h8
  clear h0 h1 h2 h3 h4 h5 h6 h7 h8
  go_enter Tryz.func155,Tryz.ntmps155
  go_wp2_with fail
  refine (within_is H0 _).mono ?_
  rintro e w' ⟨rfl,rfl⟩
  go_wp2_with fail
  refine (within_is H1 _).mono ?_
  rintro e w' ⟨rfl,rfl⟩
  go_wp2_with fail
  refine (within_is H2 _).mono ?_
  rintro e w' ⟨rfl,rfl⟩
  go_wp2_with fail
  refine (within_is H3 _).mono ?_
  rintro e w' ⟨rfl,rfl⟩
  go_wp2_with fail
  refine (within_is H4 _).mono ?_
  rintro e w' ⟨rfl,rfl⟩
  go_wp2_with fail
  refine (within_is H5 _).mono ?_
  rintro e w' ⟨rfl,rfl⟩
  go_wp2_with fail
  refine (within_is H6 _).mono ?_
  rintro e w' ⟨rfl,rfl⟩
  go_wp2_with fail
  refine (within_is H7 _).mono ?_
  rintro e w' ⟨rfl,rfl⟩
  go_wp2_with fail
  refine (within_is H8 _).mono ?_
  rintro e w' ⟨rfl,rfl⟩
  go_wp2
  go_ret
  exact ⟨rfl,below1 _ _⟩
set_option maxHeartbeats 800000 in
theorem lim_9 (c : Nat → Int) (w : World) (h0 : wi (c 2) 1 8 = true) (h1 : wi (c 0) 0 63 = true) (h2 : wi (c 1) 1 1125899906842624 = true) (h3 : wi (c 3) 0 5 = true) (h4 : wi (c 4) 0 7 = true) (h5 : wi (c 5) 0 1073741824 = true) (h6 : wi (c 6) 0 2 = true) (h7 : wi (c 7) 0 1125899906842624 = true) (h8 : wi (c 8) 0 1125899906842624 = true) :
    Calls Tryz.prog 155 #[.agg (fc c)] w fun e w' => e = .returned (.bool true) ∧ Below w.heap.size w w' := by
  have H0 := lH h0
  have H1 := lH h1
  have H2 := lH h2
  have H3 := lH h3
  have H4 := lH h4
  have H5 := lH h5
  have H6 := lH h6
  have H7 := lH h7
  have H8 := lH h8
  clear h0 h1 h2 h3 h4 h5 h6 h7 h8
  go_enter Tryz.func155,Tryz.ntmps155
  go_wp2_with fail
  refine (within_is H0 _).mono ?_
  rintro e w' ⟨rfl,rfl⟩
  go_wp2_with fail
  refine (within_is H1 _).mono ?_
  rintro e w' ⟨rfl,rfl⟩
  go_wp2_with fail
  refine (within_is H2 _).mono ?_
  rintro e w' ⟨rfl,rfl⟩
  go_wp2_with fail
  refine (within_is H3 _).mono ?_
  rintro e w' ⟨rfl,rfl⟩
  go_wp2_with fail
  refine (within_is H4 _).mono ?_
  rintro e w' ⟨rfl,rfl⟩
  go_wp2_with fail
  refine (within_is H5 _).mono ?_
  rintro e w' ⟨rfl,rfl⟩
  go_wp2_with fail
  refine (within_is H6 _).mono ?_
  rintro e w' ⟨rfl,rfl⟩
  go_wp2_with fail
  refine (within_is H7 _).mono ?_
  rintro e w' ⟨rfl,rfl⟩
  go_wp2_with fail
  refine (within_is H8 _).mono ?_
  rintro e w' ⟨rfl,rfl⟩
  go_wp2
  go_ret
  exact ⟨rfl,below1 _ _⟩
theorem inLimits_any (c : Nat → Int) (w : World) :
    Calls Tryz.prog 155 #[.agg (fc c)] w fun e w' => e = .returned (.bool (limB c)) ∧ Below w.heap.size w w' := by
  rcases first_no (c := c) with h | ⟨i,hi,hn,hy⟩
  · rw [h];have k := limB_iff.1 h
    exact lim_9 c w (k 0 (by omega)) (k 1 (by omega)) (k 2 (by omega)) (k 3 (by omega)) (k 4 (by omega)) (k 5 (by omega)) (k 6 (by omega)) (k 7 (by omega)) (k 8 (by omega))
  · rw [limB_no i hi hn]
    match i,hi,hn,hy with
    | 0,_,hn,hy => exact lim_0 c w  hn
    | 1,_,hn,hy => exact lim_1 c w (hy 0 (by omega)) hn
    | 2,_,hn,hy => exact lim_2 c w (hy 0 (by omega)) (hy 1 (by omega)) hn
    | 3,_,hn,hy => exact lim_3 c w (hy 0 (by omega)) (hy 1 (by omega)) (hy 2 (by omega)) hn
    | 4,_,hn,hy => exact lim_4 c w (hy 0 (by omega)) (hy 1 (by omega)) (hy 2 (by omega)) (hy 3 (by omega)) hn
    | 5,_,hn,hy => exact lim_5 c w (hy 0 (by omega)) (hy 1 (by omega)) (hy 2 (by omega)) (hy 3 (by omega)) (hy 4 (by omega)) hn
    | 6,_,hn,hy => exact lim_6 c w (hy 0 (by omega)) (hy 1 (by omega)) (hy 2 (by omega)) (hy 3 (by omega)) (hy 4 (by omega)) (hy 5 (by omega)) hn
    | 7,_,hn,hy => exact lim_7 c w (hy 0 (by omega)) (hy 1 (by omega)) (hy 2 (by omega)) (hy 3 (by omega)) (hy 4 (by omega)) (hy 5 (by omega)) (hy 6 (by omega)) hn
    | 8,_,hn,hy => exact lim_8 c w (hy 0 (by omega)) (hy 1 (by omega)) (hy 2 (by omega)) (hy 3 (by omega)) (hy 4 (by omega)) (hy 5 (by omega)) (hy 6 (by omega)) (hy 7 (by omega)) hn
theorem inLimits_is {c : Nat → Int} {r : Bool} (h : Hid (limB c = r)) (w : World) :
    Calls Tryz.prog 155 #[.agg (fc c)] w fun e w' => e = .returned (.bool r) ∧ Below w.heap.size w w' := by
  rw [← h.out];exact inLimits_any c w
theorem isZero_is {c : Nat → Int} {r : Bool} (h : Hid (zeroB c = r)) (w : World) :
    Calls Tryz.prog 154 #[.agg (fc c)] w fun e w' => e = .returned (.bool r) ∧ Below w.heap.size w w' := by
  rw [← h.out];exact isZero_any c w
set_option maxHeartbeats 800000 in
theorem check_any (c : Nat → Int) (w : World) :
    Calls Tryz.prog 148 #[.agg (fc c)] w fun e w' => e = .returned (.int .i64 (chkE c)) ∧ Below w.heap.size w w' := by
  cases h : zeroB c
  · cases k : limB c
    · have H : Hid (chkE c = 1) := lH (by simp [chkE,chkB,h,k])
      have H1 := lH h
      have H2 := lH k
      clear h k
      go_enter Tryz.func148,Tryz.ntmps148
      go_wp2_with fail
      obtain ⟨W,hW⟩ : ∃ W,W = w.alloc (.cells (fc c) 38) := ⟨_,rfl⟩
      have hr : row W w.heap.size = fc c := by rw [hW];exact row_new _ _ _ _ rfl
      have hz : w.heap.size < W.heap.size := by rw [hW];simp
      have hb0 : Below w.heap.size w W := hW ▸ below1 w _
      rw [← hW]
      refine (isZero_is H1 _).mono ?_
      rintro e w1 ⟨rfl,hb1⟩
      obtain ⟨c1,f1,r1,p1⟩ := bcell hb1
      go_wp2_with fail
      refine (inLimits_is H2 _).mono ?_
      rintro e w2 ⟨rfl,hb2⟩
      go_wp2
      go_ret
      exact ⟨ret_int H.out.symm,nx hb0 (nx hb1 hb2)⟩
    · have H : Hid (chkE c = 0) := lH (by simp [chkE,chkB,h,k])
      have H1 := lH h
      have H2 := lH k
      clear h k
      go_enter Tryz.func148,Tryz.ntmps148
      go_wp2_with fail
      obtain ⟨W,hW⟩ : ∃ W,W = w.alloc (.cells (fc c) 38) := ⟨_,rfl⟩
      have hr : row W w.heap.size = fc c := by rw [hW];exact row_new _ _ _ _ rfl
      have hz : w.heap.size < W.heap.size := by rw [hW];simp
      have hb0 : Below w.heap.size w W := hW ▸ below1 w _
      rw [← hW]
      refine (isZero_is H1 _).mono ?_
      rintro e w1 ⟨rfl,hb1⟩
      obtain ⟨c1,f1,r1,p1⟩ := bcell hb1
      go_wp2_with fail
      refine (inLimits_is H2 _).mono ?_
      rintro e w2 ⟨rfl,hb2⟩
      go_wp2
      go_ret
      exact ⟨ret_int H.out.symm,nx hb0 (nx hb1 hb2)⟩
  · have H : Hid (chkE c = 0) := lH (by simp [chkE,chkB,h])
    have H1 := lH h
    clear h
    go_enter Tryz.func148,Tryz.ntmps148
    go_wp2_with fail
    refine (isZero_is H1 _).mono ?_
    rintro e w1 ⟨rfl,hb1⟩
    go_wp2
    go_ret
    exact ⟨ret_int H.out.symm,nx (below1 _ _) hb1⟩
theorem check_is {c : Nat → Int} {r : Int} (h : Hid (chkE c = r)) (w : World) :
    Calls Tryz.prog 148 #[.agg (fc c)] w fun e w' => e = .returned (.int .i64 r) ∧ Below w.heap.size w w' := by
  rw [← h.out];exact check_any c w
end Go.Proofs.YtnnbjhpkgndclaaGreatDoor.Cm
namespace Go.Proofs.YtnnbjhpkgndclaaGreatDoor.Cm
open Go.RowKit
open Go.Proofs.YtnnbjhpkgndclaaGreatDoor.Rw
theorem infoB : (Tryz.prog.info? 5).map (fun i => (i.zero,i.size,i.bytes)) = some (some (.int .u8 0),1,1) := by kernel_rfl
theorem sizeB : (Tryz.prog.info? 130).map (·.size) = some 2 := by kernel_rfl
theorem liesB : liesAt Tryz.prog Tryz.prog.depth 130 (2 / Tryz.prog.cellsOf 130) 0 130 1 = true := by kernel_rfl
abbrev Bld (B b : Nat) (bs : List Value) (w : World) : Prop := Lib.IsBuilder 130 5 B b bs w
set_option maxHeartbeats 1000000 in
set_option maxRecDepth 100000 in
theorem check_used (b : Nat) (w : World) (h0 : w.cell? ⟨b,0,none⟩ = some (.pointer (some ⟨b,0,none⟩))) :
    Calls Tryz.prog 112 #[.pointer (some ⟨b,0,none⟩)] w fun e w' => e = .returned (.tuple #[]) ∧ w' = w := by
  obtain ⟨j,hj,_⟩ := Option.map_eq_some_iff.1 sizeB
  go_enter Tryz.func112,Tryz.ntmps112
  go_wp2
  rw [Lib.run_neq_ptr_same w _ Tryz.underlying128 hj]
  go_wp2
  go_end0
  exact ⟨rfl,rfl⟩
set_option maxHeartbeats 1000000 in
set_option maxRecDepth 100000 in
theorem check_fresh (b : Nat) (w : World) (h0 : w.cell? ⟨b,0,none⟩ = some (.pointer none)) (hsh : w.shape? b = some (130,2)) (hfz : w.frozen? ⟨b,0,none⟩ = false) :
    Calls Tryz.prog 112 #[.pointer (some ⟨b,0,none⟩)] w fun e w' => e = .returned (.tuple #[]) ∧ w' = w.setCell ⟨b,0,none⟩ (.pointer (some ⟨b,0,none⟩)) := by
  obtain ⟨j,hj,hjs⟩ := Option.map_eq_some_iff.1 sizeB
  have hc1 := Lib.run_to_unsafe w ⟨b,0,none⟩ Tryz.underlying128 Tryz.underlying182 hj (by rw [hjs];decide) hsh (Nat.zero_lt_succ 1)
  have hc2 := Lib.run_from_unsafe w ⟨b,0,none⟩ Tryz.underlying182 Tryz.underlying128 hj hsh liesB
  go_enter Tryz.func112,Tryz.ntmps112
  go_wp2
  rw [run_callFunc_extern Tryz.func138 (by kernel_rfl) (by kernel_rfl) (by kernel_rfl) (e := Extern.AbiNoEscape.same) (by kernel_rfl)]
  rw [Lib.run_noEscape]
  go_wp2
  go_end0
  exact ⟨rfl,rfl⟩
theorem bcheck_any (B b : Nat) (bs : List Value) (w : World) (h : Bld B b bs w) :
    Calls Tryz.prog 112 #[.pointer (some ⟨b,0,none⟩)] w fun e w' => e = .returned (.tuple #[]) ∧ (Lib.BuilderAt 130 5 B b (.pointer (some ⟨b,0,none⟩)) bs w' ∧ Below B w w') := by
  rcases h with h | h
  · refine (check_fresh b w h.cell0 h.shape h.frozen0).mono ?_
    rintro e w' ⟨rfl,rfl⟩
    exact ⟨rfl,h.used _,(Below.refl B w).setCell (p := ⟨b,0,none⟩) h.1 _⟩
  · refine (check_used b w h.cell0).mono ?_
    rintro e w' ⟨rfl,rfl⟩
    exact ⟨rfl,h,Below.refl B _⟩
set_option maxHeartbeats 2000000 in
set_option maxRecDepth 100000 in
theorem writeString_any (B b : Nat) (bs : List Value) (s : ByteArray) (w : World) (h : Bld B b bs w) (hlen : bs.length + s.size ≤ 140737488355328) (hBw : B ≤ w.heap.size) :
    Calls Tryz.prog 81 #[.pointer (some ⟨b,0,none⟩),.string s] w fun e w' => e = .returned (.tuple #[.int .i64 s.size,.nilIface]) ∧ (Bld B b (bs ++ Lib.strCells s) w' ∧ Below B w w') := by
  obtain ⟨i0,hi,hz0,hz1,hz2⟩ := info_parts infoB
  go_enter Tryz.func81,Tryz.ntmps81
  go_wp2_with fail
  refine (bcheck_any B b bs _ h).mono ?_
  rintro e w1 ⟨rfl,⟨hB,v,hbk,hown,hne⟩,hb1⟩
  have c0 : w1.cell? ⟨b,0,none⟩ = some (.pointer (some ⟨b,0,none⟩)) := by rw [Lib.cell_of_heap hbk];rfl
  have c1 : w1.cell? ⟨b,1,none⟩ = some v := by rw [Lib.cell_of_heap hbk];rfl
  go_wp2_with (at_builtin;refine Lib.wpList_append_own_string _ rfl _ _ 105 9 rfl B 5 i0 Tryz.underlying105 Tryz.underlying9 hi hz0 hz1 hz2 _ _ _ rfl hown s rfl ?c3 ?c4 ?c5 ?_)
  case c3 => unfold maxLen;omega
  case c4 => omega
  case c5 => have := hb1.size;omega
  intro v' w2 hown' hgrow _
  have hlt : b < w1.heap.size := (Array.getElem?_eq_some_iff.1 hbk).1
  have hb2 : w2.heap[b]? = some (.cells #[.pointer (some ⟨b,0,none⟩),v] 130 (0,0)) := by
    rw [hgrow.block b hlt (fun e => hne e.symm)]
    exact hbk
  have d0 : w2.cell? ⟨b,0,none⟩ = some (.pointer (some ⟨b,0,none⟩)) := by rw [Lib.cell_of_heap hb2];rfl
  have d1 : w2.cell? ⟨b,1,none⟩ = some v := by rw [Lib.cell_of_heap hb2];rfl
  have f1 : w2.frozen? ⟨b,1,none⟩ = false := Lib.frozen_of_heap hb2 1
  obtain ⟨ao,n',cap,rfl⟩ : ∃ ao n' cap,v' = .slice ao n' cap := by
    rcases hown'.2 with ⟨hv,_⟩ | ⟨g,cap,cur,hv,_⟩
    · exact ⟨_,_,_,hv⟩
    · exact ⟨_,_,_,hv⟩
  go_wp2
  go_ret2
  refine ⟨rfl,.inr ?_,?_⟩
  · exact Lib.BuilderAt.put (T := 130) (e := 5) hB hb2 (bs' := bs ++ Lib.strCells s) (by simpa [Lib.strCells_length] using hown') (by decide)
  · exact (hb1.grown hgrow (by have := hb1.size;omega) (fun k hk => (hown.lt k hk).1)).setCell (p := ⟨b,1,none⟩) hB _
def ren : Go.Shelf.Ren := ⟨fun | 169 => 82 | n => n,fun | 70 => 128 | 9 => 9 | 0 => 0 | 72 => 130 | 37 => 105 | 127 => 164 | 3 => 3 | 5 => 5 | n => n,fun | n => n⟩
theorem lays : Go.Proofs.Lays.n169 Tryz.prog ren := {
  mixed := by kernel_rfl
  f169 := Tryz.func82.trans (congrArg some (by kernel_rfl))
  t0 := Tryz.underlying0
  a0 := Tryz.isAgg0
  z0 := Tryz.sizeOf0
  v0 := Tryz.zeroValue0
  t3 := Tryz.underlying3
  a3 := Tryz.isAgg3
  z3 := Tryz.sizeOf3
  v3 := Tryz.zeroValue3
  t9 := Tryz.underlying9
  a9 := Tryz.isAgg9
  z9 := Tryz.sizeOf9
  v9 := Tryz.zeroValue9
  t37 := Tryz.underlying105
  a37 := Tryz.isAgg105
  z37 := Tryz.sizeOf105
  v37 := Tryz.zeroValue105
  t70 := Tryz.underlying128
  a70 := Tryz.isAgg128
  z70 := Tryz.sizeOf128
  v70 := Tryz.zeroValue128
  t72 := Tryz.underlying130
  a72 := Tryz.isAgg130
  z72 := Tryz.sizeOf130
  v72 := Tryz.zeroValue130
  t127 := Tryz.underlying164
  a127 := Tryz.isAgg164
  z127 := Tryz.sizeOf164
  v127 := Tryz.zeroValue164 }
set_option maxRecDepth 20000 in
theorem extra : Builder.Extra Tryz.prog ren := {
  sizeBuilder := sizeB
  liesBuilder := liesB
  t5 := Tryz.underlying5
  a5 := Tryz.isAgg5
  z5 := Tryz.sizeOf5
  v5 := Tryz.zeroValue5
  infoByte := infoB
  cellsByte := by kernel_rfl
  sizeByte := by kernel_rfl
  neB5 := by decide }
theorem string_any (B b : Nat) (l : List UInt8) (w : World) (h : Bld B b (Lib.byteCells l) w) (hBw : B ≤ w.heap.size) :
    Calls Tryz.prog 82 #[.pointer (some ⟨b,0,none⟩)] w fun e w' => e = .returned (.string ⟨l.toArray⟩) ∧ Below B w w' := Any.Builder_String_any lays extra B b l w h hBw
theorem Bld.below {B b : Nat} {bs : List Value} {w w' : World} (h : Bld B b bs w) (k : Below w.heap.size w w') : Bld B b bs w' := by
  have key : ∀ p,Lib.BuilderAt 130 5 B b p bs w → Lib.BuilderAt 130 5 B b p bs w' := by
    rintro p ⟨hB,v,hb,hown,hne⟩
    exact ⟨hB,v,by rw [k.block b (Array.getElem?_eq_some_iff.1 hb).1];exact hb,hown.kept (row := none) ⟨k.os,k.tape,k.output,k.size,fun i hi _ => k.block i hi⟩ (by
      cases e : v.ownBlock
      · exact .inl rfl
      · exact .inr (by rw [← e];intro x;rw [e] at x;cases x)),hne⟩
  exact h.imp (key _) (key _)
end Go.Proofs.YtnnbjhpkgndclaaGreatDoor.Cm
namespace Go.Proofs.YtnnbjhpkgndclaaGreatDoor.Cm
open Go.RowKit
open Go.Proofs.YtnnbjhpkgndclaaGreatDoor.Rw
open Go.Proofs.YtnnbjhpkgndclaaGreatDoor.Fx (ret_v ret_bool ret_int enc enc_size putV fB wB put_any rPut_any)
def Tab (w : World) : Prop := row w 1 = fc (fun i => wd i)
theorem row_lt {w : World} {b : Nat} {n : Nat} (h : (row w b).size = n + 1) : b < w.heap.size := by
  obtain ⟨t,fr,e⟩ := row_of rfl h
  exact (Array.getElem?_eq_some_iff.1 e).1
theorem Tab.lt {w : World} (h : Tab w) : 1 < w.heap.size := row_lt (n := 8) (by unfold Tab at h;rw [h];exact fc_size _)
theorem Tab.below {w w' : World} (h : Tab w) (k : Below w.heap.size w w') : Tab w' := by
  unfold Tab at h ⊢
  rw [(bcell k).2.2.1 _ (Tab.lt h)];exact h
theorem Tab.at {w : World} (h : Tab w) (k : Nat) (hk : k < 9) : w.cell? ⟨1,k,none⟩ = some (.int .i64 (wd k)) := by
  have hs : (row w 1).size = 8 + 1 := by unfold Tab at h;rw [h];exact fc_size _
  rw [cell_row w _ k hs,h,fc_at _ k hk]
def catS (l : Nat → Int) : Nat → ByteArray
  | 0 => ByteArray.empty
  | k + 1 => catS l k ++ enc (l k) (wd k)
theorem catS_size (l : Nat → Int) (k : Nat) : (catS l k).size = pre k := by
  induction k with
  | zero => rfl
  | succ k ih => rw [catS,ByteArray.size_append,ih,enc_size,pre]
def writeS (c : Nat → Int) : ByteArray := if chkB c then catS (numF c) 9 else ByteArray.empty
theorem fB_of {n : Int} {k : Nat} (m : Int) (h0 : 0 ≤ n) (h1 : n ≤ m) (h2 : m < 256 ^ k) : fB n k = true := by
  unfold fB;rw [Int.toNat_natCast];simp;omega
theorem num_fits {c : Nat → Int} (h : chkB c = true) (k : Nat) (hk : k < 9) : fB (numF c k) (wd k) = true := by
  have h' : zeroB c = true ∨ limB c = true := by unfold chkB at h;simpa using h
  rcases h' with h' | h'
  · have z := eqF_iff.1 h' (fld k) (fld_lt k)
    have z' : numF c k = 0 := z
    rw [z']
    unfold fB;rw [Int.toNat_natCast];simp;exact Int.pow_pos (by omega)
  · obtain ⟨⟨a0,b0⟩,⟨a1,b1⟩,⟨a2,b2⟩,⟨a3,b3⟩,⟨a4,b4⟩,⟨a5,b5⟩,⟨a6,b6⟩,⟨a7,b7⟩,⟨a8,b8⟩⟩ := (lim_eq c).1 h'
    match k,hk with
    | 0,_ => exact fB_of (n := c 2) (k := 1) 8 (by omega) b0 (by decide)
    | 1,_ => exact fB_of (n := c 0) (k := 1) 63 a1 b1 (by decide)
    | 2,_ => exact fB_of (n := c 3) (k := 1) 5 a3 b3 (by decide)
    | 3,_ => exact fB_of (n := c 4) (k := 1) 7 a4 b4 (by decide)
    | 4,_ => exact fB_of (n := c 6) (k := 1) 2 a6 b6 (by decide)
    | 5,_ => exact fB_of (n := c 1) (k := 7) 1125899906842624 (by omega) b2 (by decide)
    | 6,_ => exact fB_of (n := c 7) (k := 7) 1125899906842624 a7 b7 (by decide)
    | 7,_ => exact fB_of (n := c 8) (k := 7) 1125899906842624 a8 b8 (by decide)
    | 8,_ => exact fB_of (n := c 5) (k := 4) 1073741824 a5 b5 (by decide)
theorem wB_wd (k : Nat) : wB (wd k) = true := by
  have h := wd_bd k
  unfold wB;simp;omega
theorem put_num {c : Nat → Int} (h : chkB c = true) (k : Nat) (hk : k < 9) : putV (numF c k) (wd k) = .tuple #[.string (enc (numF c k) (wd k)),.int .i64 0] := by
  unfold putV;rw [wB_wd,num_fits h k hk,if_pos (by rfl),Int.toNat_natCast]
theorem put_is {n x : Int} {v : Value} (h : Hid (putV n x = v)) (w : World) :
    Calls Tryz.prog 99 #[.int .i64 n,.int .i64 x] w fun e w' => e = .returned v ∧ Below w.heap.size w w' := by
  rw [← h.out];exact put_any n x w
theorem cells_cat (l : Nat → Int) (k : Nat) : Lib.byteCells (catS l k).data.toList ++ Lib.strCells (enc (l k) (wd k)) = Lib.byteCells (catS l (k + 1)).data.toList := by
  rw [Lib.strCells_eq,← Lib.byteCells_append,catS,ByteArray.data_append,Array.toList_append]
set_option maxHeartbeats 2000000 in
theorem write_any (c : Nat → Int) (w : World) (ht : Tab w) :
    Calls Tryz.prog 136 #[.agg (fc c)] w fun e w' => e = .returned (.tuple #[.string (writeS c),.int .i64 (chkE c)]) ∧ Below w.heap.size w w' := by
  cases h : chkB c
  · have HE : Hid (chkE c = 1) := lH (by unfold chkE;rw [h];rfl)
    have HS : Hid (writeS c = ByteArray.empty) := lH (by unfold writeS;rw [h];rfl)
    clear h ht
    rw [HE.out,HS.out]
    go_enter Tryz.func136,Tryz.ntmps136
    go_wp2_with fail
    refine (check_is HE _).mono ?_
    rintro e w1 ⟨rfl,hb1⟩
    go_wp2
    go_ret2
    exact ⟨rfl,nx (below1 _ _) hb1⟩
  · have HE : Hid (chkE c = 0) := lH (by unfold chkE;rw [h];rfl)
    have HS : Hid (writeS c = catS (numF c) 9) := lH (by unfold writeS;rw [h];rfl)
    have HC := lH h
    have HT := lH ht
    clear h ht
    rw [HE.out,HS.out]
    go_enter Tryz.func136,Tryz.ntmps136
    go_wp2_with fail
    obtain ⟨W,hW⟩ : ∃ W,W = w.alloc (.cells (fc c) 38) := ⟨_,rfl⟩
    have hr : row W w.heap.size = fc c := by rw [hW];exact row_new _ _ _ _ rfl
    have hz : w.heap.size < W.heap.size := by rw [hW];simp
    have hb0 : Below w.heap.size w W := hW ▸ below1 w _
    rw [← hW]
    clear hW
    refine (check_is HE _).mono ?_
    rintro e w1 ⟨rfl,hb1⟩
    have hr1 : row w1 w.heap.size = fc c := by rw [(bcell hb1).2.2.1 _ hz];exact hr
    have hz1 : w.heap.size < w1.heap.size := by have := hb1.size;omega
    have hb2 := nx hb0 hb1
    clear hr hz hb0 hb1
    go_wp2_with fail
    obtain ⟨V,hV⟩ : ∃ V,V = w1.alloc (.cells #[.pointer none,.slice none 0 0] 130) := ⟨_,rfl⟩
    rw [← hV]
    refine (numbers_any c _).mono ?_
    rintro e w2 ⟨rfl,hb3⟩
    have hB0 : Bld w1.heap.size w1.heap.size [] V := hV ▸ Lib.fresh_isBuilder _ _ w1
    have hB2 : Bld w1.heap.size w1.heap.size (Lib.byteCells (catS (numF c) 0).data.toList) w2 := hB0.below hb3
    have hbV : Below w1.heap.size w1 w2 := nx (hV ▸ below1 w1 _) hb3
    clear hV hB0 hb3 hr1
    have HT2 := lH (HT.out.below hb2)
    clear HT
    go_wp2
    go_loopw [18] (fun i wr => ∃ k : Nat,k ≤ 9 ∧ i = .int .i64 k ∧ Below w1.heap.size w1 wr ∧ Bld w1.heap.size w1.heap.size (Lib.byteCells (catS (numF c) k).data.toList) wr) (fun i _ => 9 - (intOf i).toNat)
    case atStart => exact ⟨0,Nat.zero_le _,rfl,hbV,hB2⟩
    case round =>
      obtain ⟨k,hk,rfl,hb4,hB⟩ := hrel
      have HB := lH hB
      clear hB hB2 hbV
      by_cases hlt : k < 9
      · have hlt2 : (k : Int) < 9 := by omega
        have HP := lH (put_num HC.out k hlt)
        have HTr := HT2.out.below hb4
        have hw := HTr.at k hlt
        have HTr' := lH HTr
        clear HTr
        go_wp2_with fail
        refine (put_is HP _).mono ?_
        rintro e w3 ⟨rfl,hb5⟩
        have hB3 := HB.out.below hb5
        have hs5 := hb5.size
        have hs4 := hb4.size
        have hcz : (Lib.byteCells (catS (numF c) k).data.toList).length + (enc (numF c k) (wd k)).size ≤ 140737488355328 := by
          rw [Lib.byteCells_length,enc_size,Array.length_toList]
          have e : (catS (numF c) k).data.size = pre k := catS_size (numF c) k
          have h1 := pre_mono k 9 hk
          have h2 := wd_bd k
          have h3 := pre9
          omega
        have HCZ := lH hcz
        clear hcz
        go_wp2_with fail
        refine (writeString_any _ _ _ _ _ hB3 HCZ.out (by omega)).mono ?_
        rintro e w4 ⟨rfl,hB4,hb6⟩
        have HB4 : Hid (Bld w1.heap.size w1.heap.size (Lib.byteCells (catS (numF c) (k + 1)).data.toList) w4) := lH (by rw [← cells_cat];exact hB4)
        have hb7 : Below w1.heap.size w1 w4 := (nx hb4 hb5).trans hb6
        clear hB3 hB4 HB hb5 hb6 hb4
        go_wp2
        go_roundw
        case rel => exact ⟨k + 1,by omega,by go_num,hb7,HB4.out⟩
        case measure => simp [intOf];omega
      · obtain rfl : k = 9 := by omega
        have hs4 := hb4.size
        go_wp2_with fail
        refine (string_any _ _ _ _ HB.out (by omega)).mono ?_
        rintro e w4 ⟨rfl,hb6⟩
        have hb7 : Below w1.heap.size w1 w4 := hb4.trans hb6
        go_wp2
        go_ret2
        exact ⟨rfl,nx hb2 hb7⟩
end Go.Proofs.YtnnbjhpkgndclaaGreatDoor.Cm
namespace Go.Proofs.YtnnbjhpkgndclaaGreatDoor.Cm
open Go.RowKit
open Go.Proofs.YtnnbjhpkgndclaaGreatDoor.Rw
open Go.Proofs.YtnnbjhpkgndclaaGreatDoor.Fx (ret_v ret_bool ret_int dec dec_lt getV oB wB get_any)
def rdN (s : ByteArray) (a i : Nat) : Int := dec s (a + pre i) (wd i)
def rdC (s : ByteArray) (a : Nat) : Nat → Int := ofF (rdN s a)
def readE (s : ByteArray) (a : Int) : Int := if oB s a then (if 30 ≤ s.size - a then (if chkB (rdC s a.toNat) then 0 else 3) else 2) else 1
def readC (s : ByteArray) (a : Int) : Nat → Int := if readE s a = 0 then rdC s a.toNat else zeroF
def readA (s : ByteArray) (a : Int) : Int := if readE s a = 0 then a + 30 else 0
theorem get_is {s : ByteArray} {a x : Int} {v : Value} (hs : s.size ≤ maxLen) (h : Hid (getV s a x = v)) (w : World) :
    Calls Tryz.prog 98 #[.string s,.int .i64 a,.int .i64 x] w fun e w' => e = .returned v ∧ w = w' := by
  rw [← h.out];exact get_any s a x hs w
theorem getV_arg {s : ByteArray} {a : Int} (h : oB s a = false) (x : Int) : getV s a x = .tuple #[.int .i64 0,.int .i64 1] := by
  unfold getV;rw [h];rfl
theorem oB_nat (s : ByteArray) (b : Nat) : oB s b = decide (b ≤ s.size) := by unfold oB;simp
theorem getV_ok {s : ByteArray} {b k : Nat} (h : b + wd k ≤ s.size) : getV s b (wd k) = .tuple #[.int .i64 (dec s b (wd k)),.int .i64 0] := by
  have h1 := wd_bd k
  unfold getV
  rw [oB_nat,wB_wd,decide_eq_true (by omega),if_pos (by rfl),if_pos (by omega),Int.toNat_natCast,Int.toNat_natCast]
theorem getV_short {s : ByteArray} {b k : Nat} (h0 : b ≤ s.size) (h : s.size < b + wd k) : getV s b (wd k) = .tuple #[.int .i64 0,.int .i64 2] := by
  unfold getV
  rw [oB_nat,wB_wd,decide_eq_true h0,if_pos (by rfl),if_neg (by omega)]
set_option maxHeartbeats 400000 in
theorem read_arg (s : ByteArray) (a : Int) (hs : s.size ≤ maxLen) (h : oB s a = false) (w : World) (ht : Tab w) :
    Calls Tryz.prog 145 #[.string s,.int .i64 a] w fun e w' => e = .returned (.tuple #[.agg (fc zeroF),.int .i64 0,.int .i64 1]) ∧ Below w.heap.size w w' := by
  have HG := lH (getV_arg h (wd 0))
  have HS := lH hs
  unfold Tab at ht
  have hz := Tab.lt ht
  have hz0 : 0 < w.heap.size := by omega
  clear h hs
  go_enter Tryz.func145,Tryz.ntmps145
  go_wp2
  go_loopw [1,15] (fun at_ i wr => i = .int .i64 0 ∧ at_ = .int .i64 a ∧ wr = (w.alloc (.cells (fc zeroF) 38)).alloc (.cells (fc zeroF) 185)) (fun _ _ _ => 0)
  case atStart => exact ⟨rfl,rfl,rfl⟩
  case round =>
    obtain ⟨rfl,rfl,rfl⟩ := hrel
    go_wp2_with fail
    refine (get_is HS.out HG _).mono ?_
    rintro e w' ⟨rfl,rfl⟩
    go_wp2
    exact bodyPost_ret (v := .tuple #[.agg (fc zeroF),.int .i64 0,.int .i64 1]) (ret_C3 Tryz.results145 _ _ zeroF (by simp [go_sem])) rfl ⟨rfl,below2 _ _ _⟩
theorem rd_all (s : ByteArray) (a : Nat) : fc (ofF (mix (rdN s a) 9)) = fc (rdC s a) := fc_congr fun i _ => by
  unfold rdC ofF mix
  rw [if_pos (plc_lt i)]
set_option maxHeartbeats 1600000 in
theorem read_in (s : ByteArray) (a : Nat) (hs : s.size ≤ maxLen) (h : a ≤ s.size) (w : World) (ht : Tab w) :
    Calls Tryz.prog 145 #[.string s,.int .i64 a] w fun e w' => e = .returned (.tuple #[.agg (fc (readC s a)),.int .i64 (readA s a),.int .i64 (readE s a)]) ∧ Below w.heap.size w w' := by
  have HS := lH hs
  have ho : oB s a = true := by rw [oB_nat];exact decide_eq_true h
  have HO := lH ho
  unfold Tab at ht
  have hz := Tab.lt ht
  have hz0 : 0 < w.heap.size := by omega
  unfold maxLen at hs
  clear ho
  go_enter Tryz.func145,Tryz.ntmps145
  go_wp2
  go_loopw [1,15] (fun at_ i wr => ∃ k : Nat,k ≤ 9 ∧ i = .int .i64 k ∧ a + pre k ≤ s.size ∧ at_ = .int .i64 (a + pre k : Nat) ∧ wr = (w.alloc (.cells (fc zeroF) 38)).alloc (.cells (fc (mix (rdN s a) k)) 185)) (fun _ i _ => 9 - (intOf i).toNat)
  case atStart => exact ⟨0,Nat.zero_le _,rfl,h,rfl,by rw [mix_zero]⟩
  case round =>
    obtain ⟨k,hk,rfl,hin,rfl,rfl⟩ := hrel
    by_cases hlt : k < 9
    · have hlt2 : (k : Int) < 9 := by omega
      have hw := wd_bd k
      obtain ⟨hw1,hw2⟩ := hw
      by_cases hfit : a + pre k + wd k ≤ s.size
      · have HG := lH (getV_ok hfit)
        have HN : Hid ((dec s (a + pre k) (wd k) : Int) = rdN s a k) := lH rfl
        have hm := mix_succ (rdN s a) k
        have HM := lH hm
        clear hm
        have hp : pre (k + 1) = pre k + wd k := rfl
        have HP := lH hp
        clear hp
        have hfi : ((a + pre k : Nat) : Int) + (wd k : Int) ≤ s.size := by omega
        go_wp2_with fail
        refine (get_is HS.out HG _).mono ?_
        rintro e w' ⟨rfl,rfl⟩
        rw [HN.out]
        go_wp2
        rw [HM.out]
        go_roundw
        case rel => exact ⟨k + 1,by omega,by go_num,by rw [HP.out];omega,by rw [HP.out];go_num,rfl⟩
        case measure => simp [intOf];omega
      · have HG := lH (getV_short (k := k) hin (by omega))
        have h30 : s.size < a + 30 := by
          have h1 := pre_mono (k + 1) 9 (by omega)
          have h2 := pre9
          rw [pre] at h1
          omega
        have HE : Hid (readE s a = 2) := lH (by unfold readE;rw [HO.out,if_pos rfl,if_neg (by omega)])
        have HC : Hid (readC s a = zeroF) := lH (by unfold readC;rw [HE.out,if_neg (by decide)])
        have HA : Hid (readA s a = 0) := lH (by unfold readA;rw [HE.out,if_neg (by decide)])
        go_wp2_with fail
        refine (get_is HS.out HG _).mono ?_
        rintro e w' ⟨rfl,rfl⟩
        go_wp2
        exact bodyPost_ret (v := .tuple #[.agg (fc zeroF),.int .i64 0,.int .i64 2]) (ret_C3 Tryz.results145 _ _ zeroF (by simp [go_sem])) rfl ⟨by rw [HE.out,HC.out,HA.out],below2 _ _ _⟩
    · obtain rfl : k = 9 := by omega
      have h30 : a + 30 ≤ s.size := by have := pre9;omega
      have H9 : Hid ((a + pre 9 : Nat) = a + 30) := lH (by rw [pre9])
      have HR := lH (rd_all s a)
      rw [H9.out]
      cases hc : chkB (rdC s a)
      · have HK : Hid (chkE (rdC s a) = 1) := lH (by unfold chkE;rw [hc];rfl)
        have HE : Hid (readE s a = 3) := lH (by unfold readE;rw [HO.out,if_pos rfl,if_pos (by omega),Int.toNat_natCast,hc];rfl)
        have HC : Hid (readC s a = zeroF) := lH (by unfold readC;rw [HE.out,if_neg (by decide)])
        have HA : Hid (readA s a = 0) := lH (by unfold readA;rw [HE.out,if_neg (by decide)])
        clear hc
        go_wp2_with fail
        obtain ⟨V,hV⟩ : ∃ V,V = (w.alloc (.cells (fc zeroF) 38)).alloc (.cells (fc (mix (rdN s a) 9)) 185) := ⟨_,rfl⟩
        have hp0 : plain 9 V w.heap.size = true := by rw [hV];simp [go_sem]
        have hzV : w.heap.size < V.heap.size := by rw [hV];simp;omega
        have hbV : Below w.heap.size w V := hV ▸ below2 w _ _
        rw [← hV]
        clear hV
        refine (ofNumbers_any _ _).mono ?_
        rintro e w1 ⟨rfl,hb1⟩
        rw [HR.out]
        have hB := bcell hb1
        obtain ⟨c1,f1,r1,p1⟩ := hB
        have hz1 : w.heap.size < w1.heap.size := by have := hb1.size;omega
        go_wp2_with fail
        obtain ⟨U,hU⟩ : ∃ U,U = w1.alloc (.cells (fc (rdC s a)) 38) := ⟨_,rfl⟩
        have hpU : plain 9 U w.heap.size = true := by rw [hU,plain_past _ _ _ _ hz1,p1 _ _ hzV];exact hp0
        have hbU : Below w1.heap.size w1 U := hU ▸ below1 w1 _
        have hzU : w.heap.size < U.heap.size := by have := hbU.size;omega
        rw [← hU]
        clear hU
        refine (check_is HK _).mono ?_
        rintro e w2 ⟨rfl,hb2⟩
        have hp2 : plain 9 w2 w.heap.size = true := by rw [(bcell hb2).2.2.2 _ _ hzU];exact hpU
        have hbw : Below w.heap.size w w2 := nx hbV (nx hb1 (nx hbU hb2))
        clear c1 f1 r1 p1 hp0 hpU
        have hrs := row_set (fc zeroF) hp2
        go_wp2
        exact bodyPost_ret (v := .tuple #[.agg (fc zeroF),.int .i64 0,.int .i64 3]) (ret_C3 Tryz.results145 _ _ zeroF (by simp [go_sem,hrs])) rfl ⟨by rw [HE.out,HC.out,HA.out],below_setRow hbw (Nat.le_refl _) _⟩
      · have HK : Hid (chkE (rdC s a) = 0) := lH (by unfold chkE;rw [hc];rfl)
        have HE : Hid (readE s a = 0) := lH (by unfold readE;rw [HO.out,if_pos rfl,if_pos (by omega),Int.toNat_natCast,hc];rfl)
        have HC : Hid (readC s a = rdC s a) := lH (by unfold readC;rw [HE.out,if_pos rfl,Int.toNat_natCast])
        have HA : Hid (readA s a = a + 30) := lH (by unfold readA;rw [HE.out,if_pos rfl])
        clear hc
        go_wp2_with fail
        obtain ⟨V,hV⟩ : ∃ V,V = (w.alloc (.cells (fc zeroF) 38)).alloc (.cells (fc (mix (rdN s a) 9)) 185) := ⟨_,rfl⟩
        have hp0 : plain 9 V w.heap.size = true := by rw [hV];simp [go_sem]
        have hzV : w.heap.size < V.heap.size := by rw [hV];simp;omega
        have hbV : Below w.heap.size w V := hV ▸ below2 w _ _
        rw [← hV]
        clear hV
        refine (ofNumbers_any _ _).mono ?_
        rintro e w1 ⟨rfl,hb1⟩
        rw [HR.out]
        have hB := bcell hb1
        obtain ⟨c1,f1,r1,p1⟩ := hB
        have hz1 : w.heap.size < w1.heap.size := by have := hb1.size;omega
        go_wp2_with fail
        obtain ⟨U,hU⟩ : ∃ U,U = w1.alloc (.cells (fc (rdC s a)) 38) := ⟨_,rfl⟩
        have hpU : plain 9 U w.heap.size = true := by rw [hU,plain_past _ _ _ _ hz1,p1 _ _ hzV];exact hp0
        have hrU : row U w1.heap.size = fc (rdC s a) := by rw [hU];exact row_new _ _ _ _ rfl
        have hzU1 : w1.heap.size < U.heap.size := by rw [hU];simp
        have hbU : Below w1.heap.size w1 U := hU ▸ below1 w1 _
        have hzU : w.heap.size < U.heap.size := by have := hbU.size;omega
        rw [← hU]
        clear hU
        refine (check_is HK _).mono ?_
        rintro e w2 ⟨rfl,hb2⟩
        have hp2 : plain 9 w2 w.heap.size = true := by rw [(bcell hb2).2.2.2 _ _ hzU];exact hpU
        have hr2 : row w2 w1.heap.size = fc (rdC s a) := by rw [(bcell hb2).2.2.1 _ hzU1];exact hrU
        have hbw : Below w.heap.size w w2 := nx hbV (nx hb1 (nx hbU hb2))
        clear c1 f1 r1 p1 hp0 hpU hrU
        have hrs := row_set (fc (rdC s a)) hp2
        go_wp2
        exact bodyPost_ret (v := .tuple #[.agg (fc (rdC s a)),.int .i64 (a + 30),.int .i64 0]) (ret_C3 Tryz.results145 _ _ (rdC s a) (by simp [go_sem,hrs])) rfl ⟨by rw [HE.out,HC.out,HA.out],below_setRow hbw (Nat.le_refl _) _⟩
theorem read_any (s : ByteArray) (a : Int) (hs : s.size ≤ maxLen) (w : World) (ht : Tab w) :
    Calls Tryz.prog 145 #[.string s,.int .i64 a] w fun e w' => e = .returned (.tuple #[.agg (fc (readC s a)),.int .i64 (readA s a),.int .i64 (readE s a)]) ∧ Below w.heap.size w w' := by
  by_cases h : oB s a = true
  · have ho : 0 ≤ a ∧ a ≤ s.size := by simpa [oB] using h
    obtain ⟨b,rfl⟩ := Int.eq_ofNat_of_zero_le ho.1
    exact read_in s b hs (by omega) w ht
  · have h' : oB s a = false := by simpa using h
    have hE : readE s a = 1 := by unfold readE;rw [h'];rfl
    rw [show readC s a = zeroF by unfold readC;rw [hE,if_neg (by decide)],show readA s a = 0 by unfold readA;rw [hE,if_neg (by decide)],hE]
    exact read_arg s a hs h' w ht
end Go.Proofs.YtnnbjhpkgndclaaGreatDoor.Cm
namespace Go.Proofs.YtnnbjhpkgndclaaGreatDoor.Cm
open Go.RowKit
open Go.Proofs.YtnnbjhpkgndclaaGreatDoor.Fx (dec dec_lt enc enc_size enc_data bl bl_length bl_at bl_dec dec_of oB)
theorem app_list (a b : ByteArray) : (a ++ b).data.toList = a.data.toList ++ b.data.toList := by simp [ByteArray.data_append]
theorem size_len (s : ByteArray) : s.data.toList.length = s.size := by rw [Array.length_toList];rfl
theorem dec_app (x : ByteArray) (p q : List UInt8) (u k : Nat) (hx : x.data.toList = p ++ (bl u k ++ q)) (h : u < 256 ^ k) : dec x p.length k = u := by
  have e := dec_of x p.length u k (fun i hi => by
    rw [hx,List.getD_eq_getElem?_getD,List.getElem?_append_right (by omega),show p.length + i - p.length = i by omega,List.getElem?_append_left (by rw [bl_length];exact hi),← List.getD_eq_getElem?_getD,bl_at _ _ _ hi]) k (Nat.le_refl _)
  rw [e,Nat.sub_self,Nat.pow_zero,Nat.div_one,Nat.mod_eq_of_lt h]
theorem chkB_congr {f g : Nat → Int} (h : ∀ i,i < 9 → f i = g i) : chkB f = chkB g := by
  have e1 : zeroB f = zeroB g := by
    rw [Bool.eq_iff_iff]
    unfold zeroB
    rw [eqF_iff,eqF_iff]
    exact ⟨fun k i hi => by rw [← h i hi];exact k i hi,fun k i hi => by rw [h i hi];exact k i hi⟩
  have e2 : limB f = limB g := by
    rw [Bool.eq_iff_iff,lim_eq,lim_eq,h 0 (by omega),h 1 (by omega),h 2 (by omega),h 3 (by omega),h 4 (by omega),h 5 (by omega),h 6 (by omega),h 7 (by omega),h 8 (by omega)]
  unfold chkB;rw [e1,e2]
theorem num_pos {c : Nat → Int} (h : chkB c = true) (k : Nat) (hk : k < 9) : ∃ u : Nat,numF c k = u ∧ u < 256 ^ wd k := by
  have hf := num_fits h k hk
  unfold Fx.fB at hf
  rw [Int.toNat_natCast] at hf
  simp only [decide_eq_true_eq] at hf
  obtain ⟨u,hu⟩ := Int.eq_ofNat_of_zero_le hf.1
  refine ⟨u,hu,?_⟩
  have h2 := hf.2
  rw [hu] at h2
  have e : ((256 ^ wd k : Nat) : Int) = 256 ^ wd k := Int.natCast_pow 256 (wd k)
  omega
theorem catS_congr {l m : Nat → Int} (k : Nat) (h : ∀ i,i < k → l i = m i) : catS l k = catS m k := by
  induction k with
  | zero => rfl
  | succ k ih => rw [catS,catS,ih fun i hi => h i (by omega),h k (by omega)]
theorem ext_list (s : ByteArray) (a b : Nat) : (s.extract a b).data.toList = (s.data.toList.drop a).take (b - a) := Lib.extract_data s a b
theorem cat_rd (s : ByteArray) (b k : Nat) (h : b + pre k ≤ s.size) : (catS (rdN s b) k).data.toList = (s.data.toList.drop b).take (pre k) := by
  induction k with
  | zero => rfl
  | succ k ih =>
    have hp : pre (k + 1) = pre k + wd k := rfl
    rw [hp] at h
    rw [catS,app_list,ih (by omega),hp,List.take_add,List.drop_drop]
    congr 1
    unfold rdN
    rw [enc_data,bl_dec s _ _ (by omega)]
theorem write_rd {s : ByteArray} {a : Int} (h : readE s a = 0) : ∃ b : Nat,a = b ∧ b + 30 ≤ s.size ∧ writeS (readC s a) = s.extract b (b + 30) ∧ chkE (readC s a) = 0 ∧ readA s a = b + 30 := by
  have h' := h
  unfold readE at h
  by_cases h1 : oB s a = true
  · rw [h1,if_pos rfl] at h
    have ho : 0 ≤ a ∧ a ≤ s.size := by simpa [oB] using h1
    obtain ⟨b,rfl⟩ := Int.eq_ofNat_of_zero_le ho.1
    by_cases h2 : 30 ≤ (s.size : Int) - b
    · rw [if_pos h2,Int.toNat_natCast] at h
      have hc : chkB (rdC s b) = true := by
        cases e : chkB (rdC s b)
        · rw [e] at h;exact absurd h (by decide)
        · rfl
      have eC : readC s b = rdC s b := by unfold readC;rw [h',if_pos rfl,Int.toNat_natCast]
      refine ⟨b,rfl,by omega,?_,by rw [eC];unfold chkE;rw [hc];rfl,by unfold readA;rw [h',if_pos rfl]⟩
      rw [eC]
      unfold writeS
      rw [hc,if_pos rfl]
      have e9 : catS (numF (rdC s b)) 9 = catS (rdN s b) 9 := catS_congr 9 fun i hi => by
        unfold numF rdC ofF;rw [plc_fld i hi]
      rw [e9]
      apply ByteArray.ext;apply Array.ext'
      rw [cat_rd s b 9 (by rw [pre9];omega),ext_list,pre9,Nat.add_sub_cancel_left]
    · rw [if_neg h2] at h;exact absurd h (by decide)
  · rw [if_neg h1] at h;exact absurd h (by decide)
end Go.Proofs.YtnnbjhpkgndclaaGreatDoor.Cm
namespace Go.Proofs.YtnnbjhpkgndclaaGreatDoor.Rc
open Go.RowKit
open Go.Proofs.YtnnbjhpkgndclaaGreatDoor.Fx
open Go.Proofs.YtnnbjhpkgndclaaGreatDoor.Cm
open Go.Proofs.YtnnbjhpkgndclaaGreatDoor.Ve (rightB okAt rightB_iff okAt_iff zeroV eqV eqV_iff)
open Go.Proofs.YtnnbjhpkgndclaaGreatDoor.Ba (valB lessB)
def cat : List (Int × Nat) → ByteArray
  | [] => ByteArray.empty
  | f :: r => enc f.1 f.2 ++ cat r
def wid : List Nat → Nat
  | [] => 0
  | w :: ws => w + wid ws
def decs (s : ByteArray) : Nat → List Nat → List Int
  | _,[] => []
  | a,w :: ws => (dec s a w : Int) :: decs s (a + w) ws
def Fit (f : Int × Nat) : Prop := ∃ u : Nat,f.1 = u ∧ u < 256 ^ f.2
theorem cat_size (fs : List (Int × Nat)) : (cat fs).size = wid (fs.map (·.2)) := by
  induction fs with
  | nil => rfl
  | cons f r ih => rw [cat,ByteArray.size_append,enc_size,ih];rfl
theorem cat_append (fs gs : List (Int × Nat)) : cat (fs ++ gs) = cat fs ++ cat gs := by
  induction fs with
  | nil => simp [cat]
  | cons f r ih => rw [List.cons_append,cat,cat,ih,ByteArray.append_assoc]
theorem wid_append (a b : List Nat) : wid (a ++ b) = wid a + wid b := by
  induction a with
  | nil => simp [wid]
  | cons w ws ih => rw [List.cons_append,wid,wid,ih];omega
theorem decs_append (s : ByteArray) (a : Nat) (ws vs : List Nat) : decs s a (ws ++ vs) = decs s a ws ++ decs s (a + wid ws) vs := by
  induction ws generalizing a with
  | nil => simp [decs,wid]
  | cons w ws ih => rw [List.cons_append,decs,decs,ih,List.cons_append,wid,Nat.add_assoc]
theorem decs_mid (fs : List (Int × Nat)) (h : ∀ f ∈ fs,Fit f) (p q : ByteArray) : decs (p ++ cat fs ++ q) p.size (fs.map (·.2)) = fs.map (·.1) := by
  induction fs generalizing p with
  | nil => rfl
  | cons f r ih =>
    obtain ⟨u,hu,hf⟩ := h f List.mem_cons_self
    have e : p ++ cat (f :: r) ++ q = p ++ enc f.1 f.2 ++ cat r ++ q := by rw [cat];simp only [ByteArray.append_assoc]
    have h1 := ih (fun g hg => h g (List.mem_cons_of_mem _ hg)) (p ++ enc f.1 f.2)
    rw [← e,ByteArray.size_append,enc_size] at h1
    rw [List.map_cons,List.map_cons,decs,h1]
    congr 1
    have hd : (p ++ cat (f :: r) ++ q).data.toList = p.data.toList ++ (bl u f.2 ++ ((cat r).data.toList ++ q.data.toList)) := by
      rw [e,app_list,app_list,app_list,hu,enc_data];simp only [List.append_assoc]
    have h2 := dec_app _ _ _ u f.2 hd hf
    rw [size_len] at h2
    rw [h2,hu]
theorem ext_eq (s : ByteArray) (a k : Nat) (h : a + k ≤ s.size) : enc (dec s a k) k = s.extract a (a + k) := by
  apply ByteArray.ext;apply Array.ext'
  rw [enc_data,bl_dec s a k h,Lib.extract_data,Nat.add_sub_cancel_left]
theorem ext_cat (s : ByteArray) (a b c : Nat) (h1 : a ≤ b) (h2 : b ≤ c) : s.extract a b ++ s.extract b c = s.extract a c := by
  apply ByteArray.ext;apply Array.ext'
  rw [app_list,Lib.extract_data,Lib.extract_data,Lib.extract_data,show c - a = (b - a) + (c - b) by omega,List.take_add,List.drop_drop,show a + (b - a) = b by omega]
theorem cat_decs (s : ByteArray) (a : Nat) (ws : List Nat) (h : a + wid ws ≤ s.size) : cat ((decs s a ws).zip ws) = s.extract a (a + wid ws) := by
  induction ws generalizing a with
  | nil =>
    apply ByteArray.ext;apply Array.ext'
    rw [Lib.extract_data];simp [decs,cat,wid]
  | cons w ws ih =>
    rw [wid] at h
    rw [decs,List.zip_cons_cons,cat,ih (a + w) (by omega),ext_eq s a w (by omega),ext_cat _ _ _ _ (by omega) (by omega),wid,Nat.add_assoc]
theorem decs_len (s : ByteArray) (a : Nat) (ws : List Nat) : (decs s a ws).length = ws.length := by
  induction ws generalizing a with
  | nil => rfl
  | cons w ws ih => rw [decs,List.length_cons,List.length_cons,ih]
structure Ins where
  pr : Int
  ps : Int
  bn : Int
  br : Int
  tn : Int
  tr : Int
  st : Int
  c : Nat → Int
  q : Int
  d : Nat → Int
  sm : Bool
def okV (c : Nat → Int) (q : Int) (d : Nat → Int) (n : Int) : Bool := chkB c && (decide (0 ≤ q) && (decide (q ≤ 1073741824) && rightB d n))
theorem okV_iff {c : Nat → Int} {q : Int} {d : Nat → Int} {n : Int} : okV c q d n = true ↔ chkB c = true ∧ 0 ≤ q ∧ q ≤ 1073741824 ∧ rightB d n = true := by simp [okV]
def bare (i : Ins) : Bool := eqF i.c zeroF && (decide (i.q = 0) && (eqV i.d zeroV && (decide (i.tn = 0) && (decide (i.tr = 0) && !i.sm))))
def okI (i : Ins) (n : Int) : Bool :=
  decide (1 ≤ n ∧ n ≤ 7) && (decide (0 ≤ i.pr ∧ i.pr < n ∧ 1 ≤ i.ps ∧ i.ps ≤ 400) && (valB i.bn i.br && (valB i.tn i.tr && (!lessB i.bn i.br i.tn i.tr && (decide (0 ≤ i.st ∧ i.st ≤ 3) && (okV i.c i.q i.d n && (decide (i.st ≠ 0) || bare i)))))))
theorem okI_iff {i : Ins} {n : Int} : okI i n = true ↔ (1 ≤ n ∧ n ≤ 7) ∧ (0 ≤ i.pr ∧ i.pr < n ∧ 1 ≤ i.ps ∧ i.ps ≤ 400) ∧ valB i.bn i.br = true ∧ valB i.tn i.tr = true ∧ lessB i.bn i.br i.tn i.tr = false ∧ (0 ≤ i.st ∧ i.st ≤ 3) ∧ okV i.c i.q i.d n = true ∧ (i.st ≠ 0 ∨ bare i = true) := by
  simp [okI]
structure Same (i j : Ins) : Prop where
  pr : i.pr = j.pr
  ps : i.ps = j.ps
  bn : i.bn = j.bn
  br : i.br = j.br
  tn : i.tn = j.tn
  tr : i.tr = j.tr
  st : i.st = j.st
  c : ∀ k,k < 9 → i.c k = j.c k
  q : i.q = j.q
  d : ∀ k,k < 7 → i.d k = j.d k
  sm : i.sm = j.sm
def flagN (b : Bool) : Int := if b then 1 else 0
def cmdF (c : Nat → Int) : List (Int × Nat) := (List.range 9).map fun k => (numF c k,wd k)
def depF (d : Nat → Int) (n : Nat) : List (Int × Nat) := (List.range n).map fun k => (d k,2)
def valF (c : Nat → Int) (q : Int) (d : Nat → Int) (n : Nat) : List (Int × Nat) := cmdF c ++ ((q,4) :: depF d n)
def headF (i : Ins) : List (Int × Nat) := [(i.pr,1),(i.ps,2),(i.st,1),(flagN i.sm,1),(i.bn,4),(i.br,1),(i.tn,4),(i.tr,1)]
def insF (i : Ins) (n : Nat) : List (Int × Nat) := headF i ++ valF i.c i.q i.d n
def widC : List Nat := [1,1,1,1,1,7,7,7,4]
theorem cmdF_w (c : Nat → Int) : (cmdF c).map (·.2) = widC := rfl
theorem depF_w (d : Nat → Int) (n : Nat) : (depF d n).map (·.2) = List.replicate n 2 := by
  unfold depF
  rw [List.map_map]
  apply List.ext_getElem
  · simp
  · intro i h1 h2;simp
theorem headF_w (i : Ins) : (headF i).map (·.2) = [1,2,1,1,4,1,4,1] := rfl
theorem wid_rep (n : Nat) : wid (List.replicate n 2) = 2 * n := by
  induction n with
  | zero => rfl
  | succ n ih => rw [List.replicate_succ,wid,ih];omega
theorem valF_w (c : Nat → Int) (q : Int) (d : Nat → Int) (n : Nat) : (valF c q d n).map (·.2) = widC ++ (4 :: List.replicate n 2) := by
  unfold valF;rw [List.map_append,cmdF_w,List.map_cons,depF_w]
theorem val_size (c : Nat → Int) (q : Int) (d : Nat → Int) (n : Nat) : (cat (valF c q d n)).size = 34 + 2 * n := by
  rw [cat_size,valF_w,wid_append,wid,wid_rep]
  show 30 + (4 + 2 * n) = _
  omega
theorem ins_size (i : Ins) (n : Nat) : (cat (insF i n)).size = 49 + 2 * n := by
  unfold insF
  rw [cat_append,ByteArray.size_append,val_size,cat_size,headF_w]
  show 15 + (34 + 2 * n) = _
  omega
theorem cmd_cat (c : Nat → Int) : cat (cmdF c) = catS (numF c) 9 := by
  simp [cmdF,List.range,List.range.loop,cat,catS,ByteArray.append_assoc]
theorem fit_cmd {c : Nat → Int} (h : chkB c = true) : ∀ f ∈ cmdF c,Fit f := fun f hf => by
  obtain ⟨k,hk,rfl⟩ := List.mem_map.1 hf
  exact num_pos h k (List.mem_range.1 hk)
theorem fit_of {x : Int} {w : Nat} (m : Nat) (h : 0 ≤ x ∧ x < m) (hm : m ≤ 256 ^ w) : Fit (x,w) := ⟨x.toNat,by show x = _;omega,by show x.toNat < 256 ^ w;omega⟩
theorem fit_val {c : Nat → Int} {q : Int} {d : Nat → Int} {n : Int} (h : okV c q d n = true) : ∀ f ∈ valF c q d n.toNat,Fit f := fun f hf => by
  obtain ⟨h1,h2,h3,h4⟩ := okV_iff.1 h
  obtain ⟨h5,h6⟩ := rightB_iff.1 h4
  unfold valF at hf
  rcases List.mem_append.1 hf with hf | hf
  · exact fit_cmd h1 f hf
  · rcases List.mem_cons.1 hf with rfl | hf
    · exact fit_of 4294967296 ⟨h2,by omega⟩ (by decide)
    · obtain ⟨k,hk,rfl⟩ := List.mem_map.1 hf
      have hk := List.mem_range.1 hk
      have h7 := okAt_iff.1 (h6 k (by omega))
      exact fit_of 65536 ⟨h7.1,by omega⟩ (by decide)
theorem flag_bd (b : Bool) : 0 ≤ flagN b ∧ flagN b < 256 := by cases b <;> decide
theorem fit_ins {i : Ins} {n : Int} (h : okI i n = true) : ∀ f ∈ insF i n.toNat,Fit f := fun f hf => by
  obtain ⟨h1,h2,h3,h4,_,h6,h7,_⟩ := okI_iff.1 h
  have h3 := Ba.valB_iff.1 h3
  have h4 := Ba.valB_iff.1 h4
  rcases List.mem_append.1 hf with hf | hf
  · simp only [headF,List.mem_cons,List.not_mem_nil,or_false] at hf
    rcases hf with rfl | rfl | rfl | rfl | rfl | rfl | rfl | rfl
    · exact fit_of 256 ⟨by omega,by omega⟩ (by decide)
    · exact fit_of 65536 ⟨by omega,by omega⟩ (by decide)
    · exact fit_of 256 ⟨by omega,by omega⟩ (by decide)
    · exact fit_of 256 (flag_bd _) (by decide)
    · exact fit_of 4294967296 ⟨by omega,by omega⟩ (by decide)
    · exact fit_of 256 ⟨by omega,by omega⟩ (by decide)
    · exact fit_of 4294967296 ⟨by omega,by omega⟩ (by decide)
    · exact fit_of 256 ⟨by omega,by omega⟩ (by decide)
  · exact fit_val h7 f hf
theorem decs_cmd (s : ByteArray) (a : Nat) : decs s a widC = (List.range 9).map (rdN s a) := by
  simp [decs,widC,List.range,List.range.loop,rdN,pre,wd,Nat.add_assoc]
theorem decs_dep (s : ByteArray) (a n : Nat) : decs s a (List.replicate n 2) = (List.range n).map (fun k => (dec s (a + 2 * k) 2 : Int)) := by
  induction n with
  | zero => rfl
  | succ n ih =>
    rw [List.replicate_succ',decs_append,ih,wid_rep,List.range_succ,List.map_append]
    rfl
def cl (n : Int) : Nat := if n < 0 then 0 else if 7 < n then 7 else n.toNat
theorem cl_in {n : Int} (h : 1 ≤ n ∧ n ≤ 7) : cl n = n.toNat := by unfold cl;rw [if_neg (by omega),if_neg (by omega)]
def gvD (s : ByteArray) (b m : Nat) : Nat → Int := fun k => if k < m then (dec s (b + 2 * k) 2 : Int) else 0
def gvE (s : ByteArray) (a : Int) (n : Int) : Int :=
  if readE s a = 0 then (if s.size < a.toNat + 34 + 2 * cl n then 2 else if okV (readC s a) (dec s (a.toNat + 30) 4) (gvD s (a.toNat + 34) (cl n)) n then 0 else 3) else readE s a
theorem rightB_congr {d e : Nat → Int} {n : Int} (h : ∀ k,k < 7 → d k = e k) (hr : rightB e n = true) : rightB d n = true := by
  obtain ⟨h1,h2⟩ := rightB_iff.1 hr
  refine rightB_iff.2 ⟨h1,fun k hk => ?_⟩
  have h3 := okAt_iff.1 (h2 k hk)
  exact okAt_iff.2 (by rw [h k hk];exact h3)
theorem okV_congr {c c' : Nat → Int} {q : Int} {d d' : Nat → Int} {n : Int} (hc : ∀ k,k < 9 → c k = c' k) (hd : ∀ k,k < 7 → d k = d' k) (h : okV c' q d' n = true) : okV c q d n = true := by
  obtain ⟨h1,h2,h3,h4⟩ := okV_iff.1 h
  exact okV_iff.2 ⟨by rw [chkB_congr hc];exact h1,h2,h3,rightB_congr hd h4⟩
theorem cmd_mid {c : Nat → Int} (h : chkB c = true) (p q : ByteArray) : readE (p ++ cat (cmdF c) ++ q) p.size = 0 ∧ ∀ k,k < 9 → readC (p ++ cat (cmdF c) ++ q) p.size k = c k := by
  have h1 := decs_mid (cmdF c) (fit_cmd h) p q
  rw [cmdF_w,decs_cmd] at h1
  have h2 : ∀ k,k < 9 → rdN (p ++ cat (cmdF c) ++ q) p.size k = numF c k := fun k hk => by
    have h3 := congrArg (fun l => l[k]?) h1
    simpa [cmdF,hk] using h3
  have hz : (p ++ cat (cmdF c) ++ q).size = p.size + 30 + q.size := by
    rw [ByteArray.size_append,ByteArray.size_append,cat_size];rfl
  have hv : ∀ k,k < 9 → rdC (p ++ cat (cmdF c) ++ q) p.size k = c k := fun k hk => by
    unfold rdC ofF;rw [h2 _ (plc_lt k)];unfold numF;rw [fld_plc k hk]
  have hE : readE (p ++ cat (cmdF c) ++ q) p.size = 0 := by
    unfold readE
    rw [oB_nat,decide_eq_true (by rw [hz];omega),if_pos rfl,if_pos (by rw [hz];omega),Int.toNat_natCast,chkB_congr hv,h];rfl
  refine ⟨hE,fun k hk => ?_⟩
  unfold readC;rw [hE,if_pos rfl,Int.toNat_natCast];exact hv k hk
theorem val_mid {c : Nat → Int} {q : Int} {d : Nat → Int} {n : Int} (h : okV c q d n = true) (p z : ByteArray) :
    gvE (p ++ cat (valF c q d n.toNat) ++ z) p.size n = 0 ∧ (∀ k,k < 9 → readC (p ++ cat (valF c q d n.toNat) ++ z) p.size k = c k) ∧ dec (p ++ cat (valF c q d n.toNat) ++ z) (p.size + 30) 4 = q ∧ ∀ k,k < 7 → gvD (p ++ cat (valF c q d n.toNat) ++ z) (p.size + 34) (cl n) k = d k := by
  obtain ⟨h1,h2,h3,h4⟩ := okV_iff.1 h
  obtain ⟨h5,h6⟩ := rightB_iff.1 h4
  have hcl := cl_in h5
  obtain ⟨S,hS⟩ : ∃ S,p ++ cat (valF c q d n.toNat) ++ z = S := ⟨_,rfl⟩
  have hz : S.size = p.size + (34 + 2 * n.toNat) + z.size := by rw [← hS,ByteArray.size_append,ByteArray.size_append,val_size]
  have e1 : S = p ++ cat (cmdF c) ++ (cat ((q,4) :: depF d n.toNat) ++ z) := by rw [← hS,valF,cat_append];simp only [ByteArray.append_assoc]
  have e2 : S = p ++ cat (cmdF c) ++ cat ((q,4) :: depF d n.toNat) ++ z := by rw [e1];simp only [ByteArray.append_assoc]
  obtain ⟨k1,k2⟩ := cmd_mid h1 p (cat ((q,4) :: depF d n.toNat) ++ z)
  rw [← e1] at k1 k2
  have hfit := fit_val h
  have k3 := decs_mid ((q,4) :: depF d n.toNat) (fun f hf => hfit f (List.mem_append_right _ hf)) (p ++ cat (cmdF c)) z
  rw [← e2,ByteArray.size_append,show (cat (cmdF c)).size = 30 by rw [cat_size];rfl,List.map_cons,List.map_cons,depF_w,decs,decs_dep] at k3
  have k4 : (dec S (p.size + 30) 4 : Int) = q := (List.cons.inj k3).1
  have k5 := (List.cons.inj k3).2
  have k6 : ∀ k,k < 7 → gvD S (p.size + 34) (cl n) k = d k := fun k hk => by
    unfold gvD
    rw [hcl]
    by_cases hkn : k < n.toNat
    · rw [if_pos hkn]
      have k7 := congrArg (fun l => l[k]?) k5
      simpa [depF,hkn] using k7
    · rw [if_neg hkn]
      exact ((okAt_iff.1 (h6 k hk)).2.2 (by omega)).symm
  rw [hS]
  refine ⟨?_,k2,k4,k6⟩
  unfold gvE
  rw [k1,if_pos rfl,Int.toNat_natCast,if_neg (by rw [hcl];omega),k4,okV_congr k2 k6 h];rfl
def insAt (s : ByteArray) (n : Int) : Ins :=
  ⟨dec s 0 1,dec s 1 2,dec s 5 4,dec s 9 1,dec s 10 4,dec s 14 1,dec s 3 1,readC s 15,dec s 45 4,gvD s 49 (cl n),decide (dec s 4 1 = 1)⟩
def rdE (s : ByteArray) (n : Int) : Int :=
  if s.size < 15 then 2 else if gvE s 15 n = 0 then (if dec s 4 1 ≤ 1 ∧ s.size = 49 + 2 * cl n ∧ okI (insAt s n) n = true then 0 else 3) else gvE s 15 n
theorem bare_congr {i j : Ins} (h : Same i j) : bare i = bare j := by
  have h1 : eqF i.c zeroF = eqF j.c zeroF := by
    have e : ∀ f g : Nat → Int,(∀ k,k < 9 → f k = g k) → eqF f zeroF = true → eqF g zeroF = true := fun f g hfg hf => eqF_iff.2 fun k hk => by rw [← hfg k hk];exact eqF_iff.1 hf k hk
    cases h1 : eqF i.c zeroF
    · cases h2 : eqF j.c zeroF
      · rfl
      · rw [e _ _ (fun k hk => (h.c k hk).symm) h2] at h1;exact h1.symm
    · exact (e _ _ h.c h1).symm
  have h2 : eqV i.d zeroV = eqV j.d zeroV := by
    have e : ∀ f g : Nat → Int,(∀ k,k < 7 → f k = g k) → eqV f zeroV = true → eqV g zeroV = true := fun f g hfg hf => eqV_iff.2 fun k hk => by rw [← hfg k hk];exact eqV_iff.1 hf k hk
    cases h1 : eqV i.d zeroV
    · cases h2 : eqV j.d zeroV
      · rfl
      · rw [e _ _ (fun k hk => (h.d k hk).symm) h2] at h1;exact h1.symm
    · exact (e _ _ h.d h1).symm
  unfold bare
  rw [h1,h2,h.q,h.tn,h.tr,h.sm]
theorem okI_congr {i j : Ins} {n : Int} (h : Same i j) (k : okI j n = true) : okI i n = true := by
  obtain ⟨h1,h2,h3,h4,h5,h6,h7,h8⟩ := okI_iff.1 k
  refine okI_iff.2 ⟨h1,?_,?_,?_,?_,?_,?_,?_⟩
  · rw [h.pr,h.ps];exact h2
  · rw [h.bn,h.br];exact h3
  · rw [h.tn,h.tr];exact h4
  · rw [h.bn,h.br,h.tn,h.tr];exact h5
  · rw [h.st];exact h6
  · rw [h.q];exact okV_congr h.c h.d h7
  · rw [h.st,bare_congr h];exact h8
theorem flag_one (b : Bool) : decide (flagN b = 1) = b := by cases b <;> rfl
theorem head_mid {i : Ins} {n : Int} (h : okI i n = true) (z : ByteArray) : (dec (cat (headF i) ++ z) 0 1 : Int) = i.pr ∧ (dec (cat (headF i) ++ z) 1 2 : Int) = i.ps ∧ (dec (cat (headF i) ++ z) 3 1 : Int) = i.st ∧ (dec (cat (headF i) ++ z) 4 1 : Int) = flagN i.sm ∧ (dec (cat (headF i) ++ z) 5 4 : Int) = i.bn ∧ (dec (cat (headF i) ++ z) 9 1 : Int) = i.br ∧ (dec (cat (headF i) ++ z) 10 4 : Int) = i.tn ∧ (dec (cat (headF i) ++ z) 14 1 : Int) = i.tr := by
  have h1 := decs_mid (headF i) (fun f hf => fit_ins h f (List.mem_append_left _ hf)) ByteArray.empty z
  rw [ByteArray.empty_append,headF_w] at h1
  simpa [headF,decs] using h1
theorem head_size (i : Ins) : (cat (headF i)).size = 15 := by rw [cat_size];rfl
theorem ins_mid {i : Ins} {n : Int} (h : okI i n = true) (z : ByteArray) : gvE (cat (insF i n.toNat) ++ z) 15 n = 0 ∧ Same (insAt (cat (insF i n.toNat) ++ z) n) i ∧ dec (cat (insF i n.toNat) ++ z) 4 1 ≤ 1 := by
  have e : cat (insF i n.toNat) ++ z = cat (headF i) ++ (cat (valF i.c i.q i.d n.toNat) ++ z) := by rw [insF,cat_append,ByteArray.append_assoc]
  obtain ⟨k0,k1,k2,k3,k4,k5,k6,k7⟩ := head_mid h (cat (valF i.c i.q i.d n.toNat) ++ z)
  obtain ⟨v1,v2,v3,v4⟩ := val_mid (okI_iff.1 h).2.2.2.2.2.2.1 (cat (headF i)) z
  rw [ByteArray.append_assoc,head_size] at v1 v2 v3 v4
  rw [e]
  refine ⟨v1,⟨k0,k1,k4,k5,k6,k7,k2,v2,v3,v4,?_⟩,?_⟩
  · show decide (dec _ 4 1 = 1) = i.sm
    have h1 := flag_one i.sm
    rw [← k3] at h1
    rw [← h1]
    congr 1
    apply propext
    constructor <;> intro h' <;> omega
  · have := flag_bd i.sm
    have h2 : flagN i.sm ≤ 1 := by cases i.sm <;> decide
    omega
theorem read_write {i : Ins} {n : Int} (h : okI i n = true) : rdE (cat (insF i n.toNat)) n = 0 ∧ Same (insAt (cat (insF i n.toNat)) n) i := by
  obtain ⟨h1,h2,h3⟩ := ins_mid h ByteArray.empty
  rw [ByteArray.append_empty] at h1 h2 h3
  have hz := ins_size i n.toNat
  have hcl := cl_in (okI_iff.1 h).1
  refine ⟨?_,h2⟩
  unfold rdE
  rw [if_neg (by omega),if_pos h1,if_pos ⟨h3,by rw [hz,hcl],okI_congr h2 h⟩]
theorem ext_app (a b : ByteArray) (k : Nat) : (a ++ b).extract 0 (a.size + k) = a ++ b.extract 0 k := by
  apply ByteArray.ext;apply Array.ext'
  rw [Lib.extract_data,app_list,app_list,Lib.extract_data]
  simp only [List.drop_zero,Nat.sub_zero]
  rw [List.take_append,size_len,List.take_of_length_le (by rw [size_len];omega),Nat.add_sub_cancel_left]
theorem zip_dep (s : ByteArray) (b n : Nat) (d : Nat → Int) (h : ∀ k,k < n → d k = (dec s (b + 2 * k) 2 : Int)) : (decs s b (List.replicate n 2)).zip (List.replicate n 2) = depF d n := by
  rw [decs_dep]
  unfold depF
  apply List.ext_getElem
  · simp
  · intro i h1 h2
    have hi : i < n := by simpa using h2
    simp [h i hi]
theorem zip_cmd (s : ByteArray) (b : Nat) (c : Nat → Int) (h : ∀ k,k < 9 → numF c k = rdN s b k) : (decs s b widC).zip widC = cmdF c := by
  rw [decs_cmd]
  simp [cmdF,List.range,List.range.loop,widC,wd,h]
theorem zip_app {α β : Type} (a b : List α) (c d : List β) (h : a.length = c.length) : (a ++ b).zip (c ++ d) = a.zip c ++ b.zip d := List.zip_append h
theorem val_back {s : ByteArray} {a : Int} {n : Int} (h : gvE s a n = 0) : ∃ b : Nat,a = b ∧ b + 34 + 2 * cl n ≤ s.size ∧ okV (readC s a) (dec s (b + 30) 4) (gvD s (b + 34) (cl n)) n = true ∧ (1 ≤ n ∧ n ≤ 7) ∧ cat (valF (readC s a) (dec s (b + 30) 4) (gvD s (b + 34) (cl n)) n.toNat) = s.extract b (b + (34 + 2 * n.toNat)) := by
  unfold gvE at h
  by_cases h1 : readE s a = 0
  · obtain ⟨b,rfl,hb,_,_,_⟩ := write_rd h1
    rw [if_pos h1,Int.toNat_natCast] at h
    by_cases h2 : s.size < b + 34 + 2 * cl n
    · rw [if_pos h2] at h;exact absurd h (by decide)
    · rw [if_neg h2] at h
      by_cases h3 : okV (readC s b) (dec s (b + 30) 4) (gvD s (b + 34) (cl n)) n = true
      · have hn := (rightB_iff.1 (okV_iff.1 h3).2.2.2).1
        have hcl := cl_in hn
        refine ⟨b,rfl,by omega,h3,hn,?_⟩
        rw [hcl]
        have hC : readC s b = rdC s b := by unfold readC;rw [h1,if_pos rfl,Int.toNat_natCast]
        have e := cat_decs s b (widC ++ (4 :: List.replicate n.toNat 2)) (by rw [wid_append,wid,wid_rep];show b + (30 + (4 + 2 * n.toNat)) ≤ _;omega)
        rw [decs_append,zip_app _ _ _ _ (by rw [decs_len]),zip_cmd s b (readC s b) (fun k hk => by rw [hC];unfold numF rdC ofF;rw [plc_fld k hk])] at e
        rw [decs,List.zip_cons_cons,zip_dep s _ n.toNat (gvD s (b + 34) n.toNat) (fun k hk => by unfold gvD;rw [if_pos hk];rfl)] at e
        rw [wid_append,wid,wid_rep,show wid widC = 30 from rfl,show 30 + (4 + 2 * n.toNat) = 34 + 2 * n.toNat by omega] at e
        exact e
      · rw [if_neg h3] at h;exact absurd h (by decide)
  · rw [if_neg h1] at h;exact absurd h h1
theorem write_read {s : ByteArray} {n : Int} (h : rdE s n = 0) : okI (insAt s n) n = true ∧ s.size = 49 + 2 * n.toNat ∧ cat (insF (insAt s n) n.toNat) = s := by
  unfold rdE at h
  by_cases h1 : s.size < 15
  · rw [if_pos h1] at h;exact absurd h (by decide)
  · rw [if_neg h1] at h
    by_cases h2 : gvE s 15 n = 0
    · rw [if_pos h2] at h
      by_cases h3 : dec s 4 1 ≤ 1 ∧ s.size = 49 + 2 * cl n ∧ okI (insAt s n) n = true
      · obtain ⟨k1,k2,k3⟩ := h3
        have hcl := cl_in (okI_iff.1 k3).1
        rw [hcl] at k2
        refine ⟨k3,k2,?_⟩
        obtain ⟨b,hb,_,_,_,hv⟩ := val_back h2
        obtain rfl : b = 15 := by omega
        have e := cat_decs s 0 [1,2,1,1,4,1,4,1] (by show 0 + 15 ≤ _;omega)
        have hf : flagN (decide (dec s 4 1 = 1)) = dec s 4 1 := by
          by_cases h9 : dec s 4 1 = 1
          · rw [h9];rfl
          · rw [decide_eq_false h9];show (0 : Int) = _;omega
        have e2 : (decs s 0 [1,2,1,1,4,1,4,1]).zip [1,2,1,1,4,1,4,1] = headF (insAt s n) := by
          simp [decs,headF,insAt,hf]
        rw [e2] at e
        unfold insF
        rw [cat_append,e]
        have hv : cat (valF (insAt s n).c (insAt s n).q (insAt s n).d n.toNat) = s.extract 15 (15 + (34 + 2 * n.toNat)) := hv
        rw [hv,show 0 + wid [1,2,1,1,4,1,4,1] = 15 from rfl,ext_cat s 0 15 _ (by omega) (by omega)]
        apply ByteArray.ext;apply Array.ext'
        rw [Lib.extract_data,List.drop_zero,List.take_of_length_le (by rw [size_len];omega)]
      · rw [if_neg h3] at h;exact absurd h (by decide)
    · rw [if_neg h2] at h;exact absurd h h2
end Go.Proofs.YtnnbjhpkgndclaaGreatDoor.Rc
namespace Go.Proofs.YtnnbjhpkgndclaaGreatDoor.Cm
open Go.RowKit
open Go.ChangeShapes Go.WideShapes Go.ChangeAt
open Go.Proofs.YtnnbjhpkgndclaaGreatDoor.Rw
theorem cellsC : Tryz.prog.cellsOf 38 = 9 := by kernel_rfl
theorem cellsI : Tryz.prog.cellsOf 3 = 1 := by kernel_rfl
def numOf : Option Value → Int
  | some (.int _ x) => x
  | _ => 0
abbrev laid1 : List (String × DataW Unit) := [("cambist/command.widths",Rows.laid_cambist_command_widths)]
def wdL : List Int := [1,1,1,1,1,7,7,7,4]
theorem gT : Tryz.prog.globalNamed "cambist/command.widths" = some 1 := by kernel_rfl
theorem gTType : (Tryz.prog.globals[1]?).map (·.type) = some 185 := by kernel_rfl
theorem cellsT : Tryz.prog.cellsOf 185 = 9 := by kernel_rfl
theorem met (os : Os) (args : Array Value) : laidMetH Tryz.prog laid1 ((World.doorLaid Tryz.prog 400 os).forCall (fun _ _ => 0) ⟨#[],args,[]⟩).memory :=
  laidMetH_of_parts3 (fuel := 8) (laidMet_of_run' 8 (by kernel_rfl) (by kernel_rfl)) (by kernel_rfl) (by kernel_rfl)
theorem tab_of {W : World} (h : laidMetH Tryz.prog laid1 W) : Tab W := by
  rw [MakeChecks.laidMetH_plain _ _ _ (by kernel_rfl)] at h
  have hT := Lib.tabIs_of_head (k := .i64) (zs := wdL) (rest := []) gT gTType Tryz.underlying185 Tryz.underlying3 cellsI cellsT h
  unfold Lib.TabIs World.var? at hT
  rw [gT] at hT
  simp only [Option.bind_some] at hT
  unfold Tab row
  split at hT
  · rename_i cs t fr e
    rw [e]
    exact Option.some.inj hT
  · cases hT
end Go.Proofs.YtnnbjhpkgndclaaGreatDoor.Cm
