/- strings.Clone, and GetText. -/
import Derived.Test.YtnnbjhpkgndclaaGreatDoorQsZZ
import Derived.Test.YtnnbjhpkgndclaaGreatDoorQsAD
import Derived.Lib.Strings
import Derived.Lib.BufferWrite
import Derived.Lib.UnsafeStr
import Derived.Laws.MakeOwn
set_option linter.unusedVariables false
namespace Go.Proofs.YtnnbjhpkgndclaaGreatDoor.Fx
open Go.RowKit
set_option maxHeartbeats 4000000 in
set_option maxRecDepth 100000 in
theorem slClone_any (s : ByteArray) (hlim : s.size ≤ 281474976710656) (w : World) :
    Calls Tryz.prog 143 #[.string s] w fun e w' => e = .returned (.string s) ∧ Below w.heap.size w w' := by
  by_cases h0 : s.size = 0
  · obtain rfl : s = ⟨#[]⟩ := ByteArray.ext (Array.eq_empty_of_size_eq_zero h0)
    go_enter Tryz.func143,Tryz.ntmps143
    go_wp2
    go_ret
    exact ⟨rfl,Below.refl _ _⟩
  · obtain ⟨i0,hi,hz0,hz1,hz2⟩ := info_parts info5
    have hinfo : (Tryz.prog.info? 5).map (·.size) = some 1 := by rw [hi];simp [hz1]
    have hco : Tryz.prog.cellsOf 5 = 1 := by simp [Program.cellsOf,hi,hz1]
    obtain ⟨M,hM⟩ : ∃ M,M = madeCells (Value.int .u8 0).cells (((s.size : Nat) : Int).toNat * i0.size) := ⟨_,rfl⟩
    have hMs : M.size = s.size := by rw [hM,size_madeCells,hz1];simp
    have hmk : ∀ W : World,(Instr.makeSlice 105 (.int .i64 (s.size : Int)) (.int .i64 (s.size : Int))).run Tryz.prog W = .ok (.slice (some ⟨W.heap.size,0,none⟩) s.size s.size) (W.alloc (.cells M 5)) := fun W => by
      have h := run_make (P := Tryz.prog) W 105 5 i0 (.int .u8 0) Tryz.underlying105 hi hz0 .i64 .i64 (s.size : Int) (s.size : Int) (by omega) (by omega) (by rw [hz2];omega) (by omega)
      rw [← hM] at h
      simpa using h
    clear hM
    have hcp := Lib.run_copy_row_string (P := Tryz.prog) (w.alloc (.cells M 5)) 105 9 3 5 w.heap.size 0 s.size s.size s M 5 Tryz.underlying105 hinfo (heap_alloc_new w _) (Nat.le_refl _) (by omega)
    obtain ⟨Y,hY⟩ : ∃ Y,Y = (M.toList.take 0 ++ Lib.byteCells s.data.toList ++ M.toList.drop (0 + s.size)).toArray := ⟨_,rfl⟩
    rw [← hY] at hcp
    have hYl : Y.toList = Lib.byteCells s.data.toList := by
      rw [hY,List.toList_toArray,List.take_zero,List.nil_append,List.drop_of_length_le (by rw [Array.length_toList];omega),List.append_nil]
    have hYs : Y.size = s.size := by rw [← Array.length_toList,hYl,Lib.byteCells_length,← Lib.size_eq]
    have hgY : ((w.alloc (.cells M 5)).setRow w.heap.size Y).heap[w.heap.size]? = some (.cells Y 5 (0,0)) := setRow_heap _ _ M _ 5 (0,0) (heap_alloc_new w _)
    have hne : s.data.toList ≠ [] := fun e => h0 (by rw [Lib.size_eq,e];rfl)
    have hUS := Lib.run_unsafeString_row (P := Tryz.prog) ((w.alloc (.cells M 5)).setRow w.heap.size Y) 164 3 9 5 Tryz.underlying164 hco w.heap.size Y.size (by unfold World.shape?;rw [hgY]) s.data.toList hne (by rw [← Lib.size_eq];omega) (by rw [← Lib.size_eq];omega)
      (fun j x hx => Lib.cells_of_row hgY Y.size j _ (by rw [List.take_of_length_le (by rw [Array.length_toList];exact Nat.le_refl _),hYl];simp [Lib.byteCells,hx]))
    rw [← Lib.size_eq] at hUS
    clear hY
    go_enter Tryz.func143,Tryz.ntmps143
    go_wp2
    go_ret
    have hb1 : Below w.heap.size w (w.alloc (.cells M 5)) := (Below.refl _ w).alloc (Nat.le_refl _) _
    have hb2 : Below w.heap.size (w.alloc (.cells M 5)) ((w.alloc (.cells M 5)).setRow w.heap.size Y) := ⟨rfl,rfl,rfl,by simp,fun k hk => setRow_other _ _ _ _ (by omega)⟩
    exact ⟨rfl,Lib.below_freeze (hb1.trans hb2) (p := ⟨w.heap.size,0,none⟩) (Nat.le_refl _) _⟩
theorem clone_any (s : ByteArray) (hlim : s.size ≤ 281474976710656) (w : World) :
    Calls Tryz.prog 120 #[.string s] w fun e w' => e = .returned (.string s) ∧ Below w.heap.size w w' := by
  go_enter Tryz.func120,Tryz.ntmps120
  go_wp2_with fail
  refine (slClone_any s hlim _).mono ?_
  rintro e w1 ⟨rfl,hb1⟩
  go_wp2
  go_ret
  exact ⟨rfl,hb1⟩
def cut (s : ByteArray) (a k : Nat) : ByteArray := s.extract a (a + k)
theorem w2 : wB 2 = true := rfl
set_option maxHeartbeats 400000 in
theorem rPut_any (n x : Int) (w : World) :
    Calls Tryz.prog 58 #[.int .i64 n,.int .i64 x] w fun e w' => e = .returned (putV n x) ∧ Below w.heap.size w w' := by
  by_cases h1 : 1 ≤ x ∧ x ≤ 7
  · obtain ⟨h1,h2⟩ := h1
    have hw : wB x = true := by simp [wB,h1,h2]
    obtain ⟨k,rfl⟩ := Int.eq_ofNat_of_zero_le (show 0 ≤ x by omega)
    by_cases h3 : 0 ≤ n
    · by_cases h4 : fB n k = true
      · have hb := f_lt n k (by omega) h4
        obtain ⟨hb1,hb2⟩ := hb
        have H : Hid (putV n k = .tuple #[.string (enc n k),.int .i64 0]) := lH (by simp [putV,hw,h4])
        have hz : (n / 2 ^ (8 * k) != 0) = false := by
          have h5 := shr_zero n k hb1
          rw [bne,h5];unfold fB at h4;simp at h4 ⊢;exact h4.2
        clear hw h4
        have hmk := make_any n k (by omega)
        go_enter Tryz.func58,Tryz.ntmps58
        go_wp2
        go_loopw [29] (fun i wr => ∃ j : Nat,j ≤ k ∧ i = .int .i64 j ∧ wr = w.alloc (.cells (arrR n k j) 5)) (fun i _ => k - (intOf i).toNat)
        case atStart => exact ⟨0,Nat.zero_le _,rfl,by rw [arrR_zero]⟩
        case round =>
          obtain ⟨j,hj,rfl,rfl⟩ := hrel
          by_cases hlt : j < k
          · have hc := arrR_at n k j hlt
            go_wp2
            go_roundw
            case rel => exact ⟨j + 1,by omega,by go_num,by rw [← arrR_succ n k j hlt]⟩
            case measure => simp [intOf];omega
          · obtain rfl : j = k := by omega
            have hcv := conv_any n j w
            rw [arrR_full]
            go_wp2
            go_ret2
            exact ⟨ret_v H.out.symm,(Below.refl _ _).alloc (Nat.le_refl _) _⟩
      · have H : Hid (putV n k = .tuple #[.string ByteArray.empty,.int .i64 1]) := lH (by simp [putV,hw,h4])
        have hz : (n / 2 ^ (8 * k) != 0) = true := by
          have h5 := shr_zero n k h3
          rw [bne,h5];unfold fB at h4;simp at h4 ⊢;exact h4 h3
        clear hw h4
        go_enter Tryz.func58,Tryz.ntmps58
        go_wp2
        go_ret2
        exact ⟨ret_v H.out.symm,Below.refl _ _⟩
    · have H : Hid (putV n k = .tuple #[.string ByteArray.empty,.int .i64 1]) := lH (by simp [putV,fB,h3])
      clear hw
      go_enter Tryz.func58,Tryz.ntmps58
      go_wp2
      go_ret2
      exact ⟨ret_v H.out.symm,Below.refl _ _⟩
  · have H : Hid (putV n x = .tuple #[.string ByteArray.empty,.int .i64 1]) := lH (by simp [putV,wB,h1])
    by_cases h3 : 0 ≤ n
    · by_cases h4 : 1 ≤ x
      · have h5 : 7 < x := by omega
        clear h1
        go_enter Tryz.func58,Tryz.ntmps58
        go_wp2
        go_ret2
        exact ⟨ret_v H.out.symm,Below.refl _ _⟩
      · clear h1
        go_enter Tryz.func58,Tryz.ntmps58
        go_wp2
        go_ret2
        exact ⟨ret_v H.out.symm,Below.refl _ _⟩
    · clear h1
      go_enter Tryz.func58,Tryz.ntmps58
      go_wp2
      go_ret2
      exact ⟨ret_v H.out.symm,Below.refl _ _⟩
set_option maxHeartbeats 400000 in
theorem rGet_any (s : ByteArray) (a x : Int) (hs : s.size ≤ maxLen) (w : World) :
    Calls Tryz.prog 103 #[.string s,.int .i64 a,.int .i64 x] w fun e w' => e = .returned (getV s a x) ∧ w = w' := by
  unfold maxLen at hs
  by_cases h1 : (0 ≤ a ∧ a ≤ s.size) ∧ 1 ≤ x ∧ x ≤ 7
  · obtain ⟨⟨h1,h2⟩,h3,h4⟩ := h1
    obtain ⟨k,rfl⟩ := Int.eq_ofNat_of_zero_le (show 0 ≤ x by omega)
    obtain ⟨b,rfl⟩ := Int.eq_ofNat_of_zero_le h1
    have ho : oB s b = true := by simp [oB];omega
    have hw : wB k = true := by simp [wB];omega
    by_cases h5 : k ≤ s.size - b
    · have H : Hid (getV s b k = .tuple #[.int .i64 (dec s b k),.int .i64 0]) := lH (by unfold getV;rw [ho,hw,if_pos (by rfl),if_pos (by omega)];rfl)
      have hbs : decide (s.size < b) = false := by simp;omega
      clear ho hw
      go_enter Tryz.func103,Tryz.ntmps103
      go_wp2
      go_loop [8,33] (fun u i => ∃ j : Nat,j ≤ k ∧ i = .int .i64 j ∧ u = .int .i64 (dec s b j)) (fun _ i => k - (intOf i).toNat)
      case atStart => exact ⟨0,Nat.zero_le _,rfl,rfl⟩
      case round =>
        obtain ⟨j,hj,rfl,rfl⟩ := hrel
        by_cases hlt : j < k
        · have hi : b + j < s.size := by omega
          have HS := lH (dec_stepi s b j (by omega) hi)
          have hd := dec_lt s b j
          have hp := pow256_le j 6 (by omega)
          have hd1 : (dec s b j : Int) ≤ 281474976710656 := by
            have h4 : (256 : Nat) ^ 6 = 281474976710656 := by decide
            omega
          clear hd hp
          go_wp2
          go_round
          case rel => exact ⟨j + 1,by omega,by go_num,by rw [HS.out]⟩
          case measure => simp [intOf];omega
        · obtain rfl : j = k := by omega
          go_wp2
          go_ret2
          exact ⟨ret_v H.out.symm,rfl⟩
    · have H : Hid (getV s b k = .tuple #[.int .i64 0,.int .i64 2]) := lH (by unfold getV;rw [ho,hw,if_pos (by rfl),if_neg (by omega)])
      clear ho hw
      go_enter Tryz.func103,Tryz.ntmps103
      go_wp2
      go_ret2
      exact ⟨ret_v H.out.symm,rfl⟩
  · have H : Hid (getV s a x = .tuple #[.int .i64 0,.int .i64 1]) := lH (by
      unfold getV;rw [if_neg];simp only [Bool.and_eq_true,oB,wB,decide_eq_true_eq];exact h1)
    by_cases h2 : 0 ≤ a
    · by_cases h3 : a ≤ s.size
      · by_cases h4 : 1 ≤ x
        · have h5 : 7 < x := by omega
          clear h1
          go_enter Tryz.func103,Tryz.ntmps103
          go_wp2
          go_ret2
          exact ⟨ret_v H.out.symm,rfl⟩
        · clear h1
          go_enter Tryz.func103,Tryz.ntmps103
          go_wp2
          go_ret2
          exact ⟨ret_v H.out.symm,rfl⟩
      · clear h1
        go_enter Tryz.func103,Tryz.ntmps103
        go_wp2
        go_ret2
        exact ⟨ret_v H.out.symm,rfl⟩
    · clear h1
      go_enter Tryz.func103,Tryz.ntmps103
      go_wp2
      go_ret2
      exact ⟨ret_v H.out.symm,rfl⟩
end Go.Proofs.YtnnbjhpkgndclaaGreatDoor.Fx
