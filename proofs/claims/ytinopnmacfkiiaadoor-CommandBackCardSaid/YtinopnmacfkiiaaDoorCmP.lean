/- CommandBack: the call. -/
import Derived.Test.YtinopnmacfkiiaaDoorCmL
import Derived.Test.YtinopnmacfkiiaaDoorCmBk
import Derived.Laws.Concat
namespace Go.Proofs.YtinopnmacfkiiaaDoor.Cm
open Go.RowKit
set_option linter.unusedVariables false
open Go.Proofs.YtinopnmacfkiiaaDoor.Rw
open Go.Proofs.YtinopnmacfkiiaaDoor.Fx (ret_v ret_bool ret_int)
theorem writeS_size {c : Nat → Int} (h : chkB c = true) : (writeS c).size = 30 := by
  unfold writeS; rw [h, if_pos rfl, catS_size, pre9]
set_option maxHeartbeats 4000000 in
theorem walkBack (c : Nat → Int) (s : ByteArray) (a : Int) (hs : s.size ≤ maxLen) (wa : (Lit.int .i64 a).wf = true) (w : World) (ht : Tab w) :
    Calls Tryd.prog 5 #[.agg (fc c), .string s, .int .i64 a] w fun e w' => e = .returned (.bool true) ∧ Below w.heap.size w w' := by
  have hs' := hs
  unfold maxLen at hs'
  have HT := Lib.hid ht
  have HS := Lib.hid hs
  clear ht hs wa
  by_cases hl : 3000 < s.size
  · have hd : decide ((3000 : Int) < s.size) = true := by simp; omega
    go_enter Tryd.func5, Tryd.ntmps5
    go_wp2_with fail
    refine (awake_any _ (HT.out.below (below1 _ _))).mono ?_
    rintro e w1 ⟨rfl, hb1⟩
    go_wp2
    go_ret
    exact ⟨rfl, nx (below1 _ _) hb1⟩
  · have hd : decide ((3000 : Int) < s.size) = false := by simp; omega
    have he : eqF c c = true := eqF_refl c
    have R3 : ∀ w, Tab w → Calls Tryd.prog 16 #[.agg (fc c)] w fun e w' => e = .returned (.tuple #[.string (writeS c), .int .i64 (chkE c)]) ∧ Below w.heap.size w w' := fun w ht => write_any c w ht
    cases hc : chkB c
    · have hk : chkE c = 1 := by unfold chkE; rw [hc]; rfl
      rw [hk] at R3
      have R3 := Lib.hid R3
      clear hc hk
      by_cases hr : readE s a = 0
      · obtain ⟨b, rfl, hfit, hby, hck, hra⟩ := write_rd hr
        have R1 : ∀ w, Tab w → Calls Tryd.prog 18 #[.string s, .int .i64 b] w fun e w' => e = .returned (.tuple #[.agg (fc (readC s b)), .int .i64 (b + 30), .int .i64 0]) ∧ Below w.heap.size w w' := fun w ht => by
          have k := read_any s b HS.out w ht
          rw [hra, hr] at k; exact k
        have R2 : ∀ w, Tab w → Calls Tryd.prog 16 #[.agg (fc (readC s b))] w fun e w' => e = .returned (.tuple #[.string (s.extract b (b + 30)), .int .i64 0]) ∧ Below w.heap.size w w' := fun w ht => by
          have k := write_any (readC s b) w ht
          rw [hby, hck] at k; exact k
        have R1 := Lib.hid R1
        have R2 := Lib.hid R2
        obtain ⟨rc, hrc⟩ : ∃ x, readC s b = x := ⟨_, rfl⟩
        rw [hrc] at R1 R2
        clear hrc hby hck hra hr
        have hf2 : (b : Int) + 30 ≤ s.size := by omega
        have d1 : decide ((b : Int) < 0) = false := by simp
        have d2 : decide ((s.size : Int) < (b : Int) + 30) = false := by simp; omega
        have d3 : ((b : Int) + 30 - 30 != b) = false := by simp
        go_enter Tryd.func5, Tryd.ntmps5
        go_wp2_with fail
        refine (R3.out _ (HT.out.below (below1 _ _))).mono ?_
        rintro e w1 ⟨rfl, hb1⟩
        have hb2 := nx (below1 w (.cells (fc c) 23)) hb1
        go_wp2_with fail
        refine (R1.out _ (HT.out.below hb2)).mono ?_
        rintro e w2 ⟨rfl, hb3⟩
        have hb4 := nx hb2 hb3
        clear hb1 hb2 hb3
        go_wp2_with fail
        refine (R2.out _ (HT.out.below (nx hb4 (below1 _ _)))).mono ?_
        rintro e w3 ⟨rfl, hb5⟩
        have hb6 := nx hb4 (nx (below1 _ _) hb5)
        clear hb4 hb5
        go_wp2_with fail
        refine (awake_any _ (HT.out.below hb6)).mono ?_
        rintro e w4 ⟨rfl, hb7⟩
        go_wp2
        go_ret
        exact ⟨rfl, nx hb6 hb7⟩
      · have R1 : ∀ w, Tab w → Calls Tryd.prog 18 #[.string s, .int .i64 a] w fun e w' => e = .returned (.tuple #[.agg (fc (readC s a)), .int .i64 (readA s a), .int .i64 (readE s a)]) ∧ Below w.heap.size w w' := fun w ht => read_any s a HS.out w ht
        have R1 := Lib.hid R1
        obtain ⟨rc, hrc⟩ : ∃ x, readC s a = x := ⟨_, rfl⟩
        obtain ⟨ra, hra⟩ : ∃ x, readA s a = x := ⟨_, rfl⟩
        obtain ⟨re, hre⟩ : ∃ x, readE s a = x := ⟨_, rfl⟩
        rw [hrc, hra, hre] at R1
        rw [hre] at hr
        have hd4 : (re == 0) = false := by simpa using hr
        clear hrc hra hre hr
        go_enter Tryd.func5, Tryd.ntmps5
        go_wp2_with fail
        refine (R3.out _ (HT.out.below (below1 _ _))).mono ?_
        rintro e w1 ⟨rfl, hb1⟩
        have hb2 := nx (below1 w (.cells (fc c) 23)) hb1
        go_wp2_with fail
        refine (R1.out _ (HT.out.below hb2)).mono ?_
        rintro e w2 ⟨rfl, hb3⟩
        have hb4 := nx hb2 (nx hb3 (below1 _ (.cells (fc rc) 23)))
        clear hb1 hb2 hb3
        go_wp2_with fail
        refine (awake_any _ (HT.out.below hb4)).mono ?_
        rintro e w4 ⟨rfl, hb7⟩
        go_wp2
        go_ret
        exact ⟨rfl, nx hb4 hb7⟩
    · have hk : chkE c = 0 := by unfold chkE; rw [hc]; rfl
      have hm := read_mid hc s
      obtain ⟨m1, m2, m3⟩ := hm
      have hz := writeS_size hc
      have R4 : ∀ w, Tab w → Calls Tryd.prog 18 #[.string (s ++ writeS c ++ s), .int .i64 s.size] w fun e w' => e = .returned (.tuple #[.agg (fc c), .int .i64 (s.size + 30), .int .i64 0]) ∧ Below w.heap.size w w' := fun w ht => by
        have k := read_any (s ++ writeS c ++ s) s.size (by rw [ByteArray.size_append, ByteArray.size_append, hz]; unfold maxLen; omega) w ht
        rw [m1, m2, m3] at k; exact k
      rw [hk] at R3
      obtain ⟨ws, hws⟩ : ∃ x, writeS c = x := ⟨_, rfl⟩
      rw [hws] at R3 R4 hz
      have R3 := Lib.hid R3
      have R4 := Lib.hid R4
      clear hc hk m1 m2 m3 hws
      by_cases hr : readE s a = 0
      · obtain ⟨b, rfl, hfit, hby, hck, hra⟩ := write_rd hr
        have R1 : ∀ w, Tab w → Calls Tryd.prog 18 #[.string s, .int .i64 b] w fun e w' => e = .returned (.tuple #[.agg (fc (readC s b)), .int .i64 (b + 30), .int .i64 0]) ∧ Below w.heap.size w w' := fun w ht => by
          have k := read_any s b HS.out w ht
          rw [hra, hr] at k; exact k
        have R2 : ∀ w, Tab w → Calls Tryd.prog 16 #[.agg (fc (readC s b))] w fun e w' => e = .returned (.tuple #[.string (s.extract b (b + 30)), .int .i64 0]) ∧ Below w.heap.size w w' := fun w ht => by
          have k := write_any (readC s b) w ht
          rw [hby, hck] at k; exact k
        have R1 := Lib.hid R1
        have R2 := Lib.hid R2
        obtain ⟨rc, hrc⟩ : ∃ x, readC s b = x := ⟨_, rfl⟩
        rw [hrc] at R1 R2
        clear hrc hby hck hra hr
        have hf2 : (b : Int) + 30 ≤ s.size := by omega
        have d1 : decide ((b : Int) < 0) = false := by simp
        have d2 : decide ((s.size : Int) < (b : Int) + 30) = false := by simp; omega
        have d3 : ((b : Int) + 30 - 30 != b) = false := by simp
        go_enter Tryd.func5, Tryd.ntmps5
        go_wp2_with fail
        obtain ⟨W, hW⟩ : ∃ W, W = w.alloc (.cells (fc c) 23) := ⟨_, rfl⟩
        have r0 : row W w.heap.size = fc c := by rw [hW]; exact row_new _ _ _ _ rfl
        have hzw : w.heap.size < W.heap.size := by rw [hW]; simp
        have hb0 : Below w.heap.size w W := hW ▸ below1 w _
        rw [← hW]
        clear hW
        refine (R3.out _ (HT.out.below hb0)).mono ?_
        rintro e w1 ⟨rfl, hb1⟩
        have r1 : row w1 w.heap.size = fc c := by rw [(bcell hb1).2.2.1 _ hzw]; exact r0
        have hzw1 : w.heap.size < w1.heap.size := by have := hb1.size; omega
        have hb2 := nx hb0 hb1
        clear r0 hb0 hb1 hzw
        go_wp2_with fail
        refine (R4.out _ (HT.out.below hb2)).mono ?_
        rintro e wa ⟨rfl, hba⟩
        have r2 : row wa w.heap.size = fc c := by rw [(bcell hba).2.2.1 _ hzw1]; exact r1
        have hzw2 : w.heap.size < wa.heap.size := by have := hba.size; omega
        have hb3 := nx hb2 (nx hba (below1 wa (.cells (fc c) 23)))
        clear r1 hb2 hba hzw1
        go_wp2_with fail
        refine (R1.out _ (HT.out.below hb3)).mono ?_
        rintro e w2 ⟨rfl, hbq⟩
        have hb4 := nx hb3 hbq
        clear hb3 hbq
        go_wp2_with fail
        refine (R2.out _ (HT.out.below (nx hb4 (below1 _ _)))).mono ?_
        rintro e w3 ⟨rfl, hb5⟩
        have hb6 := nx hb4 (nx (below1 _ _) hb5)
        clear hb4 hb5
        go_wp2_with fail
        refine (awake_any _ (HT.out.below hb6)).mono ?_
        rintro e w4 ⟨rfl, hb7⟩
        go_wp2
        go_ret
        exact ⟨rfl, nx hb6 hb7⟩
      · have R1 : ∀ w, Tab w → Calls Tryd.prog 18 #[.string s, .int .i64 a] w fun e w' => e = .returned (.tuple #[.agg (fc (readC s a)), .int .i64 (readA s a), .int .i64 (readE s a)]) ∧ Below w.heap.size w w' := fun w ht => read_any s a HS.out w ht
        have R1 := Lib.hid R1
        obtain ⟨rc, hrc⟩ : ∃ x, readC s a = x := ⟨_, rfl⟩
        obtain ⟨ra, hra⟩ : ∃ x, readA s a = x := ⟨_, rfl⟩
        obtain ⟨re, hre⟩ : ∃ x, readE s a = x := ⟨_, rfl⟩
        rw [hrc, hra, hre] at R1
        rw [hre] at hr
        have hd4 : (re == 0) = false := by simpa using hr
        clear hrc hra hre hr
        go_enter Tryd.func5, Tryd.ntmps5
        go_wp2_with fail
        obtain ⟨W, hW⟩ : ∃ W, W = w.alloc (.cells (fc c) 23) := ⟨_, rfl⟩
        have r0 : row W w.heap.size = fc c := by rw [hW]; exact row_new _ _ _ _ rfl
        have hzw : w.heap.size < W.heap.size := by rw [hW]; simp
        have hb0 : Below w.heap.size w W := hW ▸ below1 w _
        rw [← hW]
        clear hW
        refine (R3.out _ (HT.out.below hb0)).mono ?_
        rintro e w1 ⟨rfl, hb1⟩
        have r1 : row w1 w.heap.size = fc c := by rw [(bcell hb1).2.2.1 _ hzw]; exact r0
        have hzw1 : w.heap.size < w1.heap.size := by have := hb1.size; omega
        have hb2 := nx hb0 hb1
        clear r0 hb0 hb1 hzw
        go_wp2_with fail
        refine (R4.out _ (HT.out.below hb2)).mono ?_
        rintro e wa ⟨rfl, hba⟩
        have r2 : row wa w.heap.size = fc c := by rw [(bcell hba).2.2.1 _ hzw1]; exact r1
        have hzw2 : w.heap.size < wa.heap.size := by have := hba.size; omega
        have hb3 := nx hb2 (nx hba (below1 wa (.cells (fc c) 23)))
        clear r1 hb2 hba hzw1
        go_wp2_with fail
        refine (R1.out _ (HT.out.below hb3)).mono ?_
        rintro e w2 ⟨rfl, hbq⟩
        have hb4 := nx hb3 (nx hbq (below1 _ (.cells (fc rc) 23)))
        clear hb3 hbq
        go_wp2_with fail
        refine (awake_any _ (HT.out.below hb4)).mono ?_
        rintro e w4 ⟨rfl, hb7⟩
        go_wp2
        go_ret
        exact ⟨rfl, nx hb4 hb7⟩
end Go.Proofs.YtinopnmacfkiiaaDoor.Cm
