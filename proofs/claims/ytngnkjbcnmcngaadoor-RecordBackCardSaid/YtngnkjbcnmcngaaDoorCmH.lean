/- Write of package command. -/
import Derived.Test.YtngnkjbcnmcngaaDoorCmB
import Derived.Test.YtngnkjbcnmcngaaDoorCmG
import Derived.Test.YtngnkjbcnmcngaaDoorFxR
import Derived.Test.YtngnkjbcnmcngaaDoorFxOrd
import Derived.Lib.UnsafeStr
namespace Go.Proofs.YtngnkjbcnmcngaaDoor.Cm
open Go.RowKit
set_option linter.unusedVariables false
open Go.Proofs.YtngnkjbcnmcngaaDoor.Rw
open Go.Proofs.YtngnkjbcnmcngaaDoor.Fx (ret_v ret_bool ret_int enc enc_size putV fB wB put_any rPut_any)
/-- The listed array lies as the text lays it. -/
def Tab (w : World) : Prop := row w 1 = fc (fun i => wd i)
theorem row_lt {w : World} {b : Nat} {n : Nat} (h : (row w b).size = n + 1) : b < w.heap.size := by
  obtain ⟨t, fr, e⟩ := row_of rfl h
  exact (Array.getElem?_eq_some_iff.1 e).1
theorem Tab.lt {w : World} (h : Tab w) : 1 < w.heap.size := row_lt (n := 8) (by unfold Tab at h; rw [h]; exact fc_size _)
theorem Tab.below {w w' : World} (h : Tab w) (k : Below w.heap.size w w') : Tab w' := by
  unfold Tab at h ⊢
  rw [(bcell k).2.2.1 _ (Tab.lt h)]; exact h
theorem Tab.at {w : World} (h : Tab w) (k : Nat) (hk : k < 9) : w.cell? ⟨1, k, none⟩ = some (.int .i64 (wd k)) := by
  have hs : (row w 1).size = 8 + 1 := by unfold Tab at h; rw [h]; exact fc_size _
  rw [cell_row w _ k hs, h, fc_at _ k hk]
/-- The first k numbers of l, as bytes. -/
def catS (l : Nat → Int) : Nat → ByteArray
  | 0 => ByteArray.empty
  | k + 1 => catS l k ++ enc (l k) (wd k)
theorem catS_size (l : Nat → Int) (k : Nat) : (catS l k).size = pre k := by
  induction k with
  | zero => rfl
  | succ k ih => rw [catS, ByteArray.size_append, ih, enc_size, pre]
def writeS (c : Nat → Int) : ByteArray := if chkB c then catS (numF c) 9 else ByteArray.empty
theorem fB_of {n : Int} {k : Nat} (m : Int) (h0 : 0 ≤ n) (h1 : n ≤ m) (h2 : m < 256 ^ k) : fB n k = true := by
  unfold fB; rw [Int.toNat_natCast]; simp; omega
theorem num_fits {c : Nat → Int} (h : chkB c = true) (k : Nat) (hk : k < 9) : fB (numF c k) (wd k) = true := by
  have h' : zeroB c = true ∨ limB c = true := by unfold chkB at h; simpa using h
  rcases h' with h' | h'
  · have z := eqF_iff.1 h' (fld k) (fld_lt k)
    have z' : numF c k = 0 := z
    rw [z']
    unfold fB; rw [Int.toNat_natCast]; simp; exact Int.pow_pos (by omega)
  · obtain ⟨⟨a0, b0⟩, ⟨a1, b1⟩, ⟨a2, b2⟩, ⟨a3, b3⟩, ⟨a4, b4⟩, ⟨a5, b5⟩, ⟨a6, b6⟩, ⟨a7, b7⟩, ⟨a8, b8⟩⟩ := (lim_eq c).1 h'
    match k, hk with
    | 0, _ => exact fB_of (n := c 2) (k := 1) 8 (by omega) b0 (by decide)
    | 1, _ => exact fB_of (n := c 0) (k := 1) 63 a1 b1 (by decide)
    | 2, _ => exact fB_of (n := c 3) (k := 1) 5 a3 b3 (by decide)
    | 3, _ => exact fB_of (n := c 4) (k := 1) 7 a4 b4 (by decide)
    | 4, _ => exact fB_of (n := c 6) (k := 1) 2 a6 b6 (by decide)
    | 5, _ => exact fB_of (n := c 1) (k := 7) 1125899906842624 (by omega) b2 (by decide)
    | 6, _ => exact fB_of (n := c 7) (k := 7) 1125899906842624 a7 b7 (by decide)
    | 7, _ => exact fB_of (n := c 8) (k := 7) 1125899906842624 a8 b8 (by decide)
    | 8, _ => exact fB_of (n := c 5) (k := 4) 1073741824 a5 b5 (by decide)
theorem wB_wd (k : Nat) : wB (wd k) = true := by
  have h := wd_bd k
  unfold wB; simp; omega
theorem put_num {c : Nat → Int} (h : chkB c = true) (k : Nat) (hk : k < 9) : putV (numF c k) (wd k) = .tuple #[.string (enc (numF c k) (wd k)), .int .i64 0] := by
  unfold putV; rw [wB_wd, num_fits h k hk, if_pos (by rfl), Int.toNat_natCast]
theorem put_is {n x : Int} {v : Value} (h : Hid (putV n x = v)) (w : World) :
    Calls Tryd.prog 41 #[.int .i64 n, .int .i64 x] w fun e w' => e = .returned v ∧ Below w.heap.size w w' := by
  rw [← h.out]; exact put_any n x w
theorem cells_cat (l : Nat → Int) (k : Nat) : Lib.byteCells (catS l k).data.toList ++ Lib.strCells (enc (l k) (wd k)) = Lib.byteCells (catS l (k + 1)).data.toList := by
  rw [Lib.strCells_eq, ← Lib.byteCells_append, catS, ByteArray.data_append, Array.toList_append]
set_option maxHeartbeats 2000000 in
theorem write_any (c : Nat → Int) (w : World) (ht : Tab w) :
    Calls Tryd.prog 25 #[.agg (fc c)] w fun e w' => e = .returned (.tuple #[.string (writeS c), .int .i64 (chkE c)]) ∧ Below w.heap.size w w' := by
  cases h : chkB c
  · have HE : Hid (chkE c = 1) := Lib.hid (by unfold chkE; rw [h]; rfl)
    have HS : Hid (writeS c = ByteArray.empty) := Lib.hid (by unfold writeS; rw [h]; rfl)
    clear h ht
    rw [HE.out, HS.out]
    go_enter Tryd.func25, Tryd.ntmps25
    go_wp2_with fail
    refine (check_is HE _).mono ?_
    rintro e w1 ⟨rfl, hb1⟩
    go_wp2
    go_ret2
    exact ⟨rfl, nx (below1 _ _) hb1⟩
  · have HE : Hid (chkE c = 0) := Lib.hid (by unfold chkE; rw [h]; rfl)
    have HS : Hid (writeS c = catS (numF c) 9) := Lib.hid (by unfold writeS; rw [h]; rfl)
    have HC := Lib.hid h
    have HT := Lib.hid ht
    clear h ht
    rw [HE.out, HS.out]
    go_enter Tryd.func25, Tryd.ntmps25
    go_wp2_with fail
    obtain ⟨W, hW⟩ : ∃ W, W = w.alloc (.cells (fc c) 27) := ⟨_, rfl⟩
    have hr : row W w.heap.size = fc c := by rw [hW]; exact row_new _ _ _ _ rfl
    have hz : w.heap.size < W.heap.size := by rw [hW]; simp
    have hb0 : Below w.heap.size w W := hW ▸ below1 w _
    rw [← hW]
    clear hW
    refine (check_is HE _).mono ?_
    rintro e w1 ⟨rfl, hb1⟩
    have hr1 : row w1 w.heap.size = fc c := by rw [(bcell hb1).2.2.1 _ hz]; exact hr
    have hz1 : w.heap.size < w1.heap.size := by have := hb1.size; omega
    have hb2 := nx hb0 hb1
    clear hr hz hb0 hb1
    go_wp2_with fail
    obtain ⟨V, hV⟩ : ∃ V, V = w1.alloc (.cells #[.pointer none, .slice none 0 0] 51) := ⟨_, rfl⟩
    rw [← hV]
    refine (numbers_any c _).mono ?_
    rintro e w2 ⟨rfl, hb3⟩
    have hB0 : Bld w1.heap.size w1.heap.size [] V := hV ▸ Lib.fresh_isBuilder _ _ w1
    have hB2 : Bld w1.heap.size w1.heap.size (Lib.byteCells (catS (numF c) 0).data.toList) w2 := hB0.below hb3
    have hbV : Below w1.heap.size w1 w2 := nx (hV ▸ below1 w1 _) hb3
    clear hV hB0 hb3 hr1
    have HT2 := Lib.hid (HT.out.below hb2)
    clear HT
    go_wp2
    go_loopw [18] (fun i wr => ∃ k : Nat, k ≤ 9 ∧ i = .int .i64 k ∧ Below w1.heap.size w1 wr ∧ Bld w1.heap.size w1.heap.size (Lib.byteCells (catS (numF c) k).data.toList) wr) (fun i _ => 9 - (intOf i).toNat)
    case atStart => exact ⟨0, Nat.zero_le _, rfl, hbV, hB2⟩
    case round =>
      obtain ⟨k, hk, rfl, hb4, hB⟩ := hrel
      have HB := Lib.hid hB
      clear hB hB2 hbV
      by_cases hlt : k < 9
      · have hlt2 : (k : Int) < 9 := by omega
        have HP := Lib.hid (put_num HC.out k hlt)
        have HTr := HT2.out.below hb4
        have hw := HTr.at k hlt
        have HTr' := Lib.hid HTr
        clear HTr
        go_wp2_with fail
        refine (put_is HP _).mono ?_
        rintro e w3 ⟨rfl, hb5⟩
        have hB3 := HB.out.below hb5
        have hs5 := hb5.size
        have hs4 := hb4.size
        have hcz : (Lib.byteCells (catS (numF c) k).data.toList).length + (enc (numF c k) (wd k)).size ≤ 140737488355328 := by
          rw [Lib.byteCells_length, enc_size, Array.length_toList]
          have e : (catS (numF c) k).data.size = pre k := catS_size (numF c) k
          have h1 := pre_mono k 9 hk
          have h2 := wd_bd k
          have h3 := pre9
          omega
        have HCZ := Lib.hid hcz
        clear hcz
        go_wp2_with fail
        refine (writeString_any _ _ _ _ _ hB3 HCZ.out (by omega)).mono ?_
        rintro e w4 ⟨rfl, hB4, hb6⟩
        have HB4 : Hid (Bld w1.heap.size w1.heap.size (Lib.byteCells (catS (numF c) (k + 1)).data.toList) w4) := Lib.hid (by rw [← cells_cat]; exact hB4)
        have hb7 : Below w1.heap.size w1 w4 := (nx hb4 hb5).trans hb6
        clear hB3 hB4 HB hb5 hb6 hb4
        go_wp2
        go_roundw
        case rel => exact ⟨k + 1, by omega, by go_num, hb7, HB4.out⟩
        case measure => simp [intOf]; omega
      · obtain rfl : k = 9 := by omega
        have hs4 := hb4.size
        go_wp2_with fail
        refine (string_any _ _ _ _ HB.out (by omega)).mono ?_
        rintro e w4 ⟨rfl, hb6⟩
        have hb7 : Below w1.heap.size w1 w4 := hb4.trans hb6
        go_wp2
        go_ret2
        exact ⟨rfl, nx hb2 hb7⟩
end Go.Proofs.YtngnkjbcnmcngaaDoor.Cm
