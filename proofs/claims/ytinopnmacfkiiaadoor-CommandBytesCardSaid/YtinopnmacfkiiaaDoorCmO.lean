/- CommandBytes: the call. -/
import Derived.Test.YtinopnmacfkiiaaDoorCmL
import Derived.Test.YtinopnmacfkiiaaDoorCmI
import Derived.Test.YtinopnmacfkiiaaDoorCmK
namespace Go.Proofs.YtinopnmacfkiiaaDoor.Cm
open Go.RowKit
set_option linter.unusedVariables false
open Go.Proofs.YtinopnmacfkiiaaDoor.Rw
open Go.Proofs.YtinopnmacfkiiaaDoor.Fx (ret_v ret_bool ret_int)
set_option maxHeartbeats 4000000 in
theorem walkBytes (c : Nat → Int) (s : ByteArray) (a : Int) (hs : s.size ≤ maxLen) (wa : (Lit.int .i64 a).wf = true) (w : World) (ht : Tab w) :
    Calls Tryd.prog 4 #[.agg (fc c), .string s, .int .i64 a] w fun e w' => e = .returned (.bool true) ∧ Below w.heap.size w w' := by
  have hs' := hs
  unfold maxLen at hs'
  have HT := Lib.hid ht
  have HS := Lib.hid hs
  clear ht hs wa
  by_cases hl : 3000 < s.size
  · have hd : decide ((3000 : Int) < s.size) = true := by simp; omega
    go_enter Tryd.func4, Tryd.ntmps4
    go_wp2_with fail
    refine (awake_any _ (HT.out.below (below1 _ _))).mono ?_
    rintro e w1 ⟨rfl, hb1⟩
    go_wp2
    go_ret
    exact ⟨rfl, nx (below1 _ _) hb1⟩
  · have hd : decide ((3000 : Int) < s.size) = false := by simp; omega
    obtain ⟨ws, hws⟩ : ∃ x, writeS c = x := ⟨_, rfl⟩
    obtain ⟨ck, hck⟩ : ∃ x, chkE c = x := ⟨_, rfl⟩
    obtain ⟨rc, hrc⟩ : ∃ x, readC s a = x := ⟨_, rfl⟩
    obtain ⟨ra, hra⟩ : ∃ x, readA s a = x := ⟨_, rfl⟩
    obtain ⟨re, hre⟩ : ∃ x, readE s a = x := ⟨_, rfl⟩
    have he : eqF rc rc = true := eqF_refl rc
    have R1 : ∀ w, Tab w → Calls Tryd.prog 18 #[.string s, .int .i64 a] w fun e w' => e = .returned (.tuple #[.agg (fc rc), .int .i64 ra, .int .i64 re]) ∧ Below w.heap.size w w' := fun w ht => by
      rw [← hrc, ← hra, ← hre]; exact read_any s a HS.out w ht
    have R2 : ∀ w, Calls Tryd.prog 19 #[.string s, .int .i64 a] w fun e w' => e = .returned (.tuple #[.agg (fc rc), .int .i64 ra, .int .i64 re]) ∧ Below w.heap.size w w' := fun w => by
      rw [← hrc, ← hra, ← hre]; exact rRead_any s a HS.out w
    have R3 : ∀ w, Tab w → Calls Tryd.prog 16 #[.agg (fc c)] w fun e w' => e = .returned (.tuple #[.string ws, .int .i64 ck]) ∧ Below w.heap.size w w' := fun w ht => by
      rw [← hws, ← hck]; exact write_any c w ht
    have R4 : ∀ w, Calls Tryd.prog 17 #[.agg (fc c)] w fun e w' => e = .returned (.tuple #[.string ws, .int .i64 ck]) ∧ Below w.heap.size w w' := fun w => by
      rw [← hws, ← hck]; exact rWrite_any c w
    have R1 := Lib.hid R1
    have R2 := Lib.hid R2
    have R3 := Lib.hid R3
    have R4 := Lib.hid R4
    clear hws hck hrc hra hre hl
    go_enter Tryd.func4, Tryd.ntmps4
    go_wp2_with fail
    obtain ⟨W, hW⟩ : ∃ W, W = w.alloc (.cells (fc c) 23) := ⟨_, rfl⟩
    have r0 : row W w.heap.size = fc c := by rw [hW]; exact row_new _ _ _ _ rfl
    have hz : w.heap.size < W.heap.size := by rw [hW]; simp
    have hb0 : Below w.heap.size w W := hW ▸ below1 w _
    rw [← hW]
    clear hW
    refine (R3.out _ (HT.out.below hb0)).mono ?_
    rintro e w1 ⟨rfl, hb1⟩
    have r1 : row w1 w.heap.size = fc c := by rw [(bcell hb1).2.2.1 _ hz]; exact r0
    have hb2 := nx hb0 hb1
    clear r0 hb0 hb1 hz
    go_wp2_with fail
    refine (R4.out _).mono ?_
    rintro e w2 ⟨rfl, hb3⟩
    have hb4 := nx hb2 hb3
    clear hb2 hb3 r1
    go_wp2_with fail
    refine (R1.out _ (HT.out.below hb4)).mono ?_
    rintro e w3 ⟨rfl, hb5⟩
    have hb6 := nx hb4 hb5
    clear hb4 hb5
    go_wp2_with fail
    obtain ⟨V, hV⟩ : ∃ V, V = w3.alloc (.cells (fc rc) 23) := ⟨_, rfl⟩
    have q0 : row V w3.heap.size = fc rc := by rw [hV]; exact row_new _ _ _ _ rfl
    have hzq : w3.heap.size < V.heap.size := by rw [hV]; simp
    have hbV : Below w3.heap.size w3 V := hV ▸ below1 w3 _
    rw [← hV]
    clear hV
    refine (R2.out _).mono ?_
    rintro e w4 ⟨rfl, hb7⟩
    have q1 : row w4 w3.heap.size = fc rc := by rw [(bcell hb7).2.2.1 _ hzq]; exact q0
    have hzr : w3.heap.size < w4.heap.size := by have := hb7.size; omega
    have hb8 := nx hb6 (nx hbV hb7)
    clear q0 hb6 hbV hb7 hzq
    go_wp2_with fail
    refine (awake_any _ (HT.out.below (nx hb8 (below1 _ _)))).mono ?_
    rintro e w5 ⟨rfl, hb9⟩
    go_wp2
    go_ret
    exact ⟨rfl, nx hb8 (nx (below1 _ _) hb9)⟩
end Go.Proofs.YtinopnmacfkiiaaDoor.Cm
