/- strings.Clone, and GetText. -/
import Derived.Test.YtjjkedlcmcifjaaFxC
import Derived.Lib.Strings
import Derived.Lib.BufferWrite
import Derived.Lib.UnsafeStr
import Derived.Laws.MakeOwn
namespace Go.Proofs.Ytjjkedlcmcifjaa.Fx
open Go.RowKit
set_option linter.unusedVariables false
set_option maxHeartbeats 4000000 in
set_option maxRecDepth 100000 in
theorem slClone_any (s : ByteArray) (hlim : s.size ≤ 281474976710656) (w : World) :
    Calls Try.prog 29 #[.string s] w fun e w' => e = .returned (.string s) ∧ Below w.heap.size w w' := by
  by_cases h0 : s.size = 0
  · obtain rfl : s = ⟨#[]⟩ := ByteArray.ext (Array.eq_empty_of_size_eq_zero h0)
    go_enter Try.func29, Try.ntmps29
    go_wp2
    go_ret
    exact ⟨rfl, Below.refl _ _⟩
  · obtain ⟨i0, hi, hz0, hz1, hz2⟩ := info_parts info5
    have hinfo : (Try.prog.info? 5).map (·.size) = some 1 := by rw [hi]; simp [hz1]
    have hco : Try.prog.cellsOf 5 = 1 := by simp [Program.cellsOf, hi, hz1]
    obtain ⟨M, hM⟩ : ∃ M, M = madeCells (Value.int .u8 0).cells (((s.size : Nat) : Int).toNat * i0.size) := ⟨_, rfl⟩
    have hMs : M.size = s.size := by rw [hM, size_madeCells, hz1]; simp
    have hmk : ∀ W : World, (Instr.makeSlice 42 (.int .i64 (s.size : Int)) (.int .i64 (s.size : Int))).run Try.prog W = .ok (.slice (some ⟨W.heap.size, 0, none⟩) s.size s.size) (W.alloc (.cells M 5)) := fun W => by
      have h := run_make (P := Try.prog) W 42 5 i0 (.int .u8 0) Try.underlying42 hi hz0 .i64 .i64 (s.size : Int) (s.size : Int) (by omega) (by omega) (by rw [hz2]; omega) (by omega)
      rw [← hM] at h
      simpa using h
    clear hM
    have hcp := Lib.run_copy_row_string (P := Try.prog) (w.alloc (.cells M 5)) 42 9 3 5 w.heap.size 0 s.size s.size s M 5 Try.underlying42 hinfo (heap_alloc_new w _) (Nat.le_refl _) (by omega)
    obtain ⟨Y, hY⟩ : ∃ Y, Y = (M.toList.take 0 ++ Lib.byteCells s.data.toList ++ M.toList.drop (0 + s.size)).toArray := ⟨_, rfl⟩
    rw [← hY] at hcp
    have hYl : Y.toList = Lib.byteCells s.data.toList := by
      rw [hY, List.toList_toArray, List.take_zero, List.nil_append, List.drop_of_length_le (by rw [Array.length_toList]; omega), List.append_nil]
    have hYs : Y.size = s.size := by rw [← Array.length_toList, hYl, Lib.byteCells_length, ← Lib.size_eq]
    have hgY : ((w.alloc (.cells M 5)).setRow w.heap.size Y).heap[w.heap.size]? = some (.cells Y 5 (0, 0)) := setRow_heap _ _ M _ 5 (0, 0) (heap_alloc_new w _)
    have hne : s.data.toList ≠ [] := fun e => h0 (by rw [Lib.size_eq, e]; rfl)
    have hUS := Lib.run_unsafeString_row (P := Try.prog) ((w.alloc (.cells M 5)).setRow w.heap.size Y) 46 3 9 5 Try.underlying46 hco w.heap.size Y.size (by unfold World.shape?; rw [hgY]) s.data.toList hne (by rw [← Lib.size_eq]; omega) (by rw [← Lib.size_eq]; omega)
      (fun j x hx => Lib.cells_of_row hgY Y.size j _ (by rw [List.take_of_length_le (by rw [Array.length_toList]; exact Nat.le_refl _), hYl]; simp [Lib.byteCells, hx]))
    rw [← Lib.size_eq] at hUS
    clear hY
    go_enter Try.func29, Try.ntmps29
    go_wp2
    go_ret
    have hb1 : Below w.heap.size w (w.alloc (.cells M 5)) := (Below.refl _ w).alloc (Nat.le_refl _) _
    have hb2 : Below w.heap.size (w.alloc (.cells M 5)) ((w.alloc (.cells M 5)).setRow w.heap.size Y) := ⟨rfl, rfl, rfl, by simp, fun k hk => setRow_other _ _ _ _ (by omega)⟩
    exact ⟨rfl, Lib.below_freeze (hb1.trans hb2) (p := ⟨w.heap.size, 0, none⟩) (Nat.le_refl _) _⟩
theorem clone_any (s : ByteArray) (hlim : s.size ≤ 281474976710656) (w : World) :
    Calls Try.prog 28 #[.string s] w fun e w' => e = .returned (.string s) ∧ Below w.heap.size w w' := by
  go_enter Try.func28, Try.ntmps28
  go_wp2_with fail
  refine (slClone_any s hlim _).mono ?_
  rintro e w1 ⟨rfl, hb1⟩
  go_wp2
  go_ret
  exact ⟨rfl, hb1⟩
/-- the piece of s from a on, of k bytes -/
def cut (s : ByteArray) (a k : Nat) : ByteArray := s.extract a (a + k)
def getTextV (s : ByteArray) (a : Int) : Value :=
  if oB s a then
    (if 2 ≤ s.size - a then
      (if dec s a.toNat 2 ≤ 4000 then
        (if dec s a.toNat 2 ≤ s.size - (a + 2) then .tuple #[.string (cut s (a.toNat + 2) (dec s a.toNat 2)), .int .i64 (a + 2 + dec s a.toNat 2), .int .i64 0] else .tuple #[.string ByteArray.empty, .int .i64 0, .int .i64 2])
      else .tuple #[.string ByteArray.empty, .int .i64 0, .int .i64 5])
    else .tuple #[.string ByteArray.empty, .int .i64 0, .int .i64 2])
  else .tuple #[.string ByteArray.empty, .int .i64 0, .int .i64 1]
theorem w2 : wB 2 = true := rfl
set_option maxHeartbeats 400000 in
theorem getText_any (s : ByteArray) (a : Int) (hs : s.size ≤ maxLen) (w : World) :
    Calls Try.prog 20 #[.string s, .int .i64 a] w fun e w' => e = .returned (getTextV s a) ∧ Below w.heap.size w w' := by
  have hs' := hs
  unfold maxLen at hs'
  by_cases h1 : oB s a = true
  · have ho : 0 ≤ a ∧ a ≤ s.size := by simpa [oB] using h1
    obtain ⟨b, rfl⟩ := Int.eq_ofNat_of_zero_le (show 0 ≤ a by omega)
    by_cases h2 : 2 ≤ s.size - b
    · have G : Hid (getV s b 2 = .tuple #[.int .i64 (dec s b 2), .int .i64 0]) := Lib.hid (by unfold getV; rw [h1, w2, if_pos (by rfl), if_pos (by omega)]; rfl)
      have hd := dec_lt s b 2
      by_cases h3 : dec s b 2 ≤ 4000
      · by_cases h4 : dec s b 2 ≤ s.size - (b + 2)
        · have H : Hid (getTextV s b = .tuple #[.string (cut s (b + 2) (dec s b 2)), .int .i64 (b + 2 + dec s b 2), .int .i64 0]) := Lib.hid (by unfold getTextV; rw [h1, if_pos (by rfl), if_pos (by omega), if_pos (by simpa using h3), if_pos (by simp; omega)]; simp)
          have H3 : Hid (decide ((dec s b 2 : Int) ≤ s.size - (b + 2)) = true) := Lib.hid (by simp; omega)
          have hx : (s.extract (b + 2) (b + 2 + dec s b 2)).size ≤ 281474976710656 := by rw [ByteArray.size_extract]; omega
          clear h1
          go_enter Try.func20, Try.ntmps20
          go_wp2_with fail
          refine (get_any s b 2 hs _).mono ?_
          rintro e w' ⟨rfl, rfl⟩
          rw [G.out]
          go_wp2_with fail
          refine (follow_any s (b + 2) (dec s b 2) hs (by omega) _).mono ?_
          rintro e w' ⟨rfl, rfl⟩
          rw [H3.out]
          go_wp2_with fail
          refine (clone_any (s.extract (b + 2) (b + 2 + dec s b 2)) hx _).mono ?_
          rintro e w1 ⟨rfl, hb1⟩
          go_wp2
          go_ret3
          exact ⟨ret_v H.out.symm, hb1⟩
        · have H : Hid (getTextV s b = .tuple #[.string ByteArray.empty, .int .i64 0, .int .i64 2]) := Lib.hid (by unfold getTextV; rw [h1, if_pos (by rfl), if_pos (by omega), if_pos (by simpa using h3), if_neg (by simp; omega)])
          have H3 : Hid (decide ((dec s b 2 : Int) ≤ s.size - (b + 2)) = false) := Lib.hid (by simp; omega)
          clear h1
          go_enter Try.func20, Try.ntmps20
          go_wp2_with fail
          refine (get_any s b 2 hs _).mono ?_
          rintro e w' ⟨rfl, rfl⟩
          rw [G.out]
          go_wp2_with fail
          refine (follow_any s (b + 2) (dec s b 2) hs (by omega) _).mono ?_
          rintro e w' ⟨rfl, rfl⟩
          rw [H3.out]
          go_wp2
          go_ret3
          exact ⟨ret_v H.out.symm, Below.refl _ _⟩
      · have H : Hid (getTextV s b = .tuple #[.string ByteArray.empty, .int .i64 0, .int .i64 5]) := Lib.hid (by unfold getTextV; rw [h1, if_pos (by rfl), if_pos (by omega), if_neg (by simpa using h3)])
        clear h1
        go_enter Try.func20, Try.ntmps20
        go_wp2_with fail
        refine (get_any s b 2 hs _).mono ?_
        rintro e w' ⟨rfl, rfl⟩
        rw [G.out]
        go_wp2
        go_ret3
        exact ⟨ret_v H.out.symm, Below.refl _ _⟩
    · have G : Hid (getV s b 2 = .tuple #[.int .i64 0, .int .i64 2]) := Lib.hid (by unfold getV; rw [h1, w2, if_pos (by rfl), if_neg (by omega)])
      have H : Hid (getTextV s b = .tuple #[.string ByteArray.empty, .int .i64 0, .int .i64 2]) := Lib.hid (by unfold getTextV; rw [h1, if_pos (by rfl), if_neg (by omega)])
      clear h1
      go_enter Try.func20, Try.ntmps20
      go_wp2_with fail
      refine (get_any s b 2 hs _).mono ?_
      rintro e w' ⟨rfl, rfl⟩
      rw [G.out]
      go_wp2
      go_ret3
      exact ⟨ret_v H.out.symm, Below.refl _ _⟩
  · have G : Hid (getV s a 2 = .tuple #[.int .i64 0, .int .i64 1]) := Lib.hid (by simp [getV, h1])
    have H : Hid (getTextV s a = .tuple #[.string ByteArray.empty, .int .i64 0, .int .i64 1]) := Lib.hid (by simp [getTextV, h1])
    clear h1
    go_enter Try.func20, Try.ntmps20
    go_wp2_with fail
    refine (get_any s a 2 hs _).mono ?_
    rintro e w' ⟨rfl, rfl⟩
    rw [G.out]
    go_wp2
    go_ret3
    exact ⟨ret_v H.out.symm, Below.refl _ _⟩
end Go.Proofs.Ytjjkedlcmcifjaa.Fx
