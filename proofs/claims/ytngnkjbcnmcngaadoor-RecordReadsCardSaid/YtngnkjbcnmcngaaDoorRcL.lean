/- Package record: put, PutValue. -/
import Derived.Test.YtngnkjbcnmcngaaDoorRcK
import Derived.Test.YtngnkjbcnmcngaaDoorRcG
import Derived.Test.YtngnkjbcnmcngaaDoorCmH
namespace Go.Proofs.YtngnkjbcnmcngaaDoor.Rc
open Go.RowKit
set_option linter.unusedVariables false
open Go.Proofs.YtngnkjbcnmcngaaDoor.Rw
open Go.Proofs.YtngnkjbcnmcngaaDoor.Bv
open Go.Proofs.YtngnkjbcnmcngaaDoor.Fx (enc enc_size putV)
open Go.Proofs.YtngnkjbcnmcngaaDoor.Cm (chkB chkE writeS numF Tab Bld writeString_any string_any)
theorem cells_app (s f : ByteArray) : Lib.byteCells (s ++ f).data.toList = Lib.byteCells s.data.toList ++ Lib.strCells f := by
  rw [ByteArray.data_append, Array.toList_append]; exact List.map_append
theorem cells_len (s : ByteArray) : (Lib.byteCells s.data.toList).length = s.size := by rw [Lib.byteCells_length, Array.length_toList]; rfl
/-- A builder of the call's own that holds s. -/
abbrev Bd (B b : Nat) (s : ByteArray) (w : World) : Prop := Bld B b (Lib.byteCells s.data.toList) w
theorem wrote_any (B b : Nat) (s f : ByteArray) (w : World) (h : Bd B b s w) (hl : s.size + f.size ≤ 1000000) (hB : B ≤ w.heap.size) :
    Calls Tryd.prog 20 #[.pointer (some ⟨b, 0, none⟩), .string f] w fun e w' => e = .returned (.tuple #[.int .i64 f.size, .nilIface]) ∧ (Bd B b (s ++ f) w' ∧ Below B w w') := by
  have := writeString_any B b _ f w h (by rw [cells_len]; omega) hB
  rw [← cells_app] at this; exact this
set_option maxRecDepth 8000 in
set_option maxHeartbeats 1000000 in
theorem put_any (B b : Nat) (s : ByteArray) (n : Int) (k : Nat) (w : World) (h : Bd B b s w) (hl : s.size ≤ 10000) (hB : B ≤ w.heap.size) (hf : Fit (n, k)) (hk : 1 ≤ k ∧ k ≤ 7) :
    Calls Tryd.prog 19 #[.pointer (some ⟨b, 0, none⟩), .int .i64 n, .int .i64 k] w fun e w' => e = .returned (.tuple #[]) ∧ (Bd B b (s ++ enc n k) w' ∧ Below B w w') := by
  obtain ⟨x, hx⟩ : ∃ x, enc n k = x := ⟨_, rfl⟩
  have hxs : x.size ≤ 7 := by rw [← hx, enc_size]; exact hk.2
  have HP := put_ok hf hk
  rw [hx] at HP ⊢
  have HP := Lib.hid HP
  have HB := Lib.hid h
  clear hx h hf
  go_enter Tryd.func19, Tryd.ntmps19
  go_wp2_with fail
  refine (Cm.put_is HP _).mono ?_
  rintro e w1 ⟨rfl, hb1⟩
  have HB1 := Lib.hid (HB.out.below hb1)
  have hs1 := hb1.size
  clear HB
  go_wp2_with fail
  refine (wrote_any _ _ _ _ _ HB1.out (by omega) (by omega)).mono ?_
  rintro e w2 ⟨rfl, hB2, hb2⟩
  have HB2 := Lib.hid hB2
  clear hB2 HB1
  go_wp2
  go_end0
  exact ⟨rfl, HB2.out, (hb1.mono hB).trans hb2⟩
theorem write_yes {c : Nat → Int} {x : ByteArray} (h : Hid (chkB c = true)) (hx : Hid (cat (cmdF c) = x)) (w : World) (ht : Tab w) :
    Calls Tryd.prog 25 #[.agg (Cm.fc c)] w fun e w' => e = .returned (.tuple #[.string x, .int .i64 0]) ∧ Below w.heap.size w w' := by
  have k := Cm.write_any c w ht
  have e1 : writeS c = x := by unfold writeS; rw [h.out, if_pos rfl, ← hx.out, cmd_cat]
  rw [e1, chk_yes h.out] at k; exact k
set_option maxRecDepth 8000 in
set_option maxHeartbeats 4000000 in
theorem putValue_any (c : Nat → Int) (q : Int) (d : Nat → Int) (n : Int) (w : World) (ht : Tab w) :
    Calls Tryd.prog 9 #[.agg (cv c q d), .int .i64 n] w fun e w' => e = .returned (.tuple #[.string (if okV c q d n then cat (valF c q d n.toNat) else ByteArray.empty), .int .i64 (if okV c q d n then 0 else 1)]) ∧ Below w.heap.size w w' := by
  obtain ⟨V, hV⟩ : ∃ Q_ : World, w.alloc (.cells (cv c q d) 31) = Q_ := ⟨_, rfl⟩
  have bV : Below w.heap.size w V := hV ▸ below1 _ _
  have hr0 : row V w.heap.size = cv c q d := hV ▸ row_new _ _ _ _ rfl
  have hl0 : w.heap.size < V.heap.size := by rw [← hV]; simp
  have HT := Lib.hid (show ∀ u, Below V.heap.size V u → Tab u from fun u hu => ht.below (nx bV hu))
  have HK := Lib.hid (show ∀ u, Below V.heap.size V u → row u w.heap.size = cv c q d ∧ u.cell? ⟨w.heap.size, 9, none⟩ = some (.int .i64 q) ∧ (∀ k, k < 7 → u.cell? ⟨w.heap.size, 10 + k, none⟩ = some (.int .i64 (d k))) ∧ w.heap.size < u.heap.size from fun u hu => by
    have h1 := row_stays hr0 hl0 hu
    refine ⟨h1, ?_, fun k hk => ?_, Nat.lt_of_lt_of_le hl0 hu.size⟩
    · rw [cell_row (n := 16) u w.heap.size 9 (by rw [h1]; rfl), h1]; rfl
    · rw [cell_row (n := 16) u w.heap.size (10 + k) (by rw [h1]; rfl), h1]; exact dep_at c q d k hk)
  clear ht
  cases h1 : okV c q d n with
  | false =>
    have H1 := Lib.hid h1
    clear h1
    go_enter Tryd.func9, Tryd.ntmps9
    go_wp2_with fail
    refine (isValue_is H1 _).mono ?_
    rintro e w1 ⟨rfl, hb1⟩
    go_wp2
    go_ret2
    exact ⟨rfl, nx bV hb1⟩
  | true =>
    have H1 := Lib.hid h1
    obtain ⟨k1, k2, k3, k4⟩ := okV_iff.1 h1
    obtain ⟨k5, k6⟩ := Ve.rightB_iff.1 k4
    obtain ⟨N, hN⟩ : ∃ N : Nat, n = N := ⟨n.toNat, by omega⟩
    subst hN
    have hN7 : N ≤ 7 := by omega
    obtain ⟨x0, hx0⟩ : ∃ x, cat (cmdF c) = x := ⟨_, rfl⟩
    have HW := Lib.hid hx0
    have HC := Lib.hid k1
    have HQ := Lib.hid (show Fit (q, 4) from fit_of 4294967296 ⟨k2, by omega⟩ (by decide))
    have HD := Lib.hid (show ∀ k, k < N → Fit (d k, 2) from fun k hk => by
      have h7 := Ve.okAt_iff.1 (k6 k (by omega))
      exact fit_of 65536 ⟨h7.1, by omega⟩ (by decide))
    have hx0s : x0.size = 30 := by rw [← hx0, cat_size]; rfl
    have HV : Hid (cat (valF c q d N) = x0 ++ enc q 4 ++ cat (depF d N)) := Lib.hid (by rw [valF, cat_append, hx0, cat, ByteArray.append_assoc])
    obtain ⟨y, hy⟩ : ∃ y, enc q 4 = y := ⟨_, rfl⟩
    have hys : y.size = 4 := by rw [← hy, enc_size]
    rw [hy] at HV
    have HY := Lib.hid hy
    clear h1 k1 k4 k6 hx0 hy k2 k3
    go_enter Tryd.func9, Tryd.ntmps9
    go_wp2_with fail
    clear hr0
    refine (isValue_is H1 _).mono ?_
    rintro e w1 ⟨rfl, hb1⟩
    obtain ⟨m1, m2, m3, m4⟩ := HK.out w1 hb1
    go_wp2_with fail
    clear m1 m2 m3 m4
    refine (write_yes HC HW _ (HT.out _ hb1)).mono ?_
    rintro e w2 ⟨rfl, hb2⟩
    have b2 := nx hb1 hb2
    go_wp2_with fail
    obtain ⟨U, hU⟩ : ∃ Q_ : World, w2.alloc (.cells #[.pointer none, .slice none 0 0] 51) = Q_ := ⟨_, rfl⟩
    have hB0 : Bd w2.heap.size w2.heap.size ByteArray.empty U := hU ▸ Lib.fresh_isBuilder _ _ w2
    have bU : Below w2.heap.size w2 U := hU ▸ below1 w2 _
    rw [hU]
    clear hU
    have hs0 := bU.size
    have HB0 := Lib.hid hB0
    clear hB0
    refine (wrote_any _ _ _ _ _ HB0.out (by rw [ByteArray.size_empty]; omega) (by omega)).mono ?_
    rintro e w3 ⟨rfl, hB3, hb3⟩
    rw [ByteArray.empty_append] at hB3
    have HB3 := Lib.hid hB3
    have b3 : Below w2.heap.size w2 w3 := bU.trans hb3
    have hs3 := b3.size
    clear hB3 HB0 hb3 bU hs0
    obtain ⟨m1, m2, m3, m4⟩ := HK.out w3 (nx b2 b3)
    go_wp2_with fail
    clear m1 m2 m3 m4
    refine (put_any _ _ _ q 4 _ HB3.out (by omega) (by omega) HQ.out ⟨by omega, by omega⟩).mono ?_
    rintro e w4 ⟨rfl, hB4, hb4⟩
    rw [HY.out] at hB4
    have HB4 := Lib.hid hB4
    have b4 : Below w2.heap.size w2 w4 := b3.trans hb4
    clear hB4 HB3 hb4 b3 hs3
    go_wp2
    go_loopw [29] (fun j wr => ∃ (k : Nat), k ≤ N ∧ j = .int .i64 k ∧ Bd w2.heap.size w2.heap.size (x0 ++ y ++ cat (depF d k)) wr ∧ Below w2.heap.size w2 wr) (fun j _ => N - (intOf j).toNat)
    case atStart => exact ⟨0, Nat.zero_le _, rfl, by simpa [depF, cat] using HB4.out, b4⟩
    case round =>
      obtain ⟨k, hk, rfl, hB, hb⟩ := hrel
      obtain ⟨z, hz⟩ : ∃ z, x0 ++ y ++ cat (depF d k) = z := ⟨_, rfl⟩
      have hzs : z.size ≤ 100 := by rw [← hz, ByteArray.size_append, ByteArray.size_append, cat_size, depF_w, wid_rep]; omega
      rw [hz] at hB
      have HB := Lib.hid hB
      have hs := hb.size
      clear hB HB4 b4
      by_cases hlt : k < N
      · have hlt2 : (k : Int) < N := by omega
        have hP := HD.out k hlt
        have HP := Lib.hid hP
        obtain ⟨m1, m2, m3, m4⟩ := HK.out wr (nx b2 hb)
        have m5 := m3 k (by omega)
        have hk7 : (k : Int) < 7 := by omega
        have HZ : Hid (x0 ++ y ++ cat (depF d (k + 1)) = z ++ enc (d k) 2) := Lib.hid (by rw [depF_snoc, ← hz]; exact ByteArray.append_assoc.symm)
        clear hz m3 hP
        go_wp2_with fail
        clear m1 m2 m4 m5
        refine (put_any _ _ _ (d k) 2 _ HB.out (by omega) (by omega) HP.out ⟨by omega, by omega⟩).mono ?_
        rintro e w5 ⟨rfl, hB5, hb5⟩
        have HB5 := Lib.hid hB5
        clear hB5
        go_wp2
        go_roundw
        case rel => exact ⟨k + 1, by omega, by go_num, by rw [HZ.out]; exact HB5.out, hb.trans hb5⟩
        case measure => simp [intOf]; omega
      · obtain rfl : k = N := by omega
        have HZ : Hid (cat (valF c q d k) = z) := Lib.hid (by rw [HV.out, hz])
        clear hz
        go_wp2_with fail
        refine (string_any _ _ _ _ HB.out (by omega)).mono ?_
        rintro e w5 ⟨rfl, hb5⟩
        go_wp2
        go_ret2
        exact ⟨by show _ = Ending.returned (.tuple #[.string (cat (valF c q d k)), .int .i64 0]); rw [HZ.out]; rfl, nx bV (nx b2 (hb.trans hb5))⟩
end Go.Proofs.YtngnkjbcnmcngaaDoor.Rc
