/- CrcTurned: a frame in which bits are turned, within 32 neighbouring ones, is told by its sum: the call. -/
import Derived.Test.YtifbibdbnehbbaaDoorCrTu
import Derived.Test.YtifbibdbnehbbaaDoorCrLCut
import Derived.Laws.IdiomStrings
namespace Go.Proofs.YtifbibdbnehbbaaDoor.Cr
open Go.RowKit
set_option linter.unusedVariables false
open Go.Proofs.YtifbibdbnehbbaaDoor.Fx
/-- the row of bytes of F with D's bits turned -/
structure RT (B n : Nat) (F : List UInt8) (D : Nat) (w : World) : Prop where
  cell : ∀ i, i < n → w.cell? ⟨B, i, none⟩ = some (.int .u8 (tb F D i : Nat))
  frozen : ∀ i, i < n → w.frozen? ⟨B, i, none⟩ = false
theorem RT.step {B n : Nat} {F : List UInt8} {D t : Nat} {w : World} (h : RT B n F D w) (hD : D < 2 ^ t) (ht : t / 8 < n) :
    RT B n F (D + 2 ^ t) (w.setCell ⟨B, t / 8, none⟩ (.int .u8 (tb F D (t / 8) ^^^ 2 ^ (t % 8) : Nat))) := by
  refine ⟨fun i hi => ?_, fun i hi => by rw [World.frozen?_setCell]; exact h.frozen i hi⟩
  rw [tb_step F D t i hD]
  by_cases hc : i = t / 8
  · subst hc
    rw [if_pos rfl, World.cell?_setCell_same (h := h.cell _ hi)]
  · rw [if_neg hc, World.cell?_setCell_other (h := by intro e; exact hc (by injection e with e1 e2; exact e2.symm))]
    exact h.cell i hi
theorem rt_start (s : ByteArray) (w : World) (cap n : Nat) (fr : Nat × Nat) (hn : s.size = n) (hfr : fr = ((bytesRow s cap).size, (bytesRow s cap).size + 1)) :
    RT w.heap.size n s.data.toList 0 (w.drew.alloc (.cells (bytesRow s cap) 5 fr)) := by
  subst hfr hn
  refine ⟨fun i hi => ?_, fun i hi => ?_⟩
  · have hb : (bytesRow s cap)[i]? = some (Value.int .u8 (byteAt s i).toNat) := by
      rw [byteAt_eq s i hi]
      unfold bytesRow
      rw [Array.getElem?_append_left (by simpa using hi), Array.getElem?_map, Array.getElem?_eq_getElem hi]
      rfl
    rw [tb_zero]
    show (w.drew.alloc (.cells (bytesRow s cap) 5 _)).cell? ⟨w.heap.size, i, none⟩ = _
    simp only [World.cell?, World.alloc, World.drew]
    rw [Array.getElem?_push_size]
    exact hb
  · simp only [World.frozen?, World.alloc, World.drew]
    rw [Array.getElem?_push_size]
    have : i < (bytesRow s cap).size := by unfold bytesRow; simp; omega
    simp; omega
/-- the bits turned behind k rounds -/
def dk (first bits k : Nat) : Nat := 2 ^ first * (bits % 2 ^ k)
theorem dk_lt (first bits k : Nat) : dk first bits k < 2 ^ (first + k) := by
  unfold dk
  rw [Nat.pow_add]
  exact Nat.mul_lt_mul_of_pos_left (Nat.mod_lt _ (Nat.pow_pos (by omega))) (Nat.pow_pos (by omega))
theorem dk_one (first bits k : Nat) (h : bits / 2 ^ k % 2 = 1) : dk first bits (k + 1) = dk first bits k + 2 ^ (first + k) := by
  unfold dk
  rw [Nat.pow_succ, Nat.mod_mul, h, Nat.mul_one, Nat.mul_add, ← Nat.pow_add]
theorem dk_no (first bits k : Nat) (h : bits / 2 ^ k % 2 = 0) : dk first bits (k + 1) = dk first bits k := by
  unfold dk
  rw [Nat.pow_succ, Nat.mod_mul, h, Nat.mul_zero, Nat.add_zero]
theorem dk_zero (first bits : Nat) : dk first bits 0 = 0 := by unfold dk; rw [Nat.pow_zero, Nat.mod_one, Nat.mul_zero]
theorem dk_full (first bits : Nat) (h : bits < 4294967296) : dk first bits 32 = 2 ^ first * bits := by unfold dk; rw [Nat.mod_eq_of_lt (by omega)]
theorem bit_and (x k b : Nat) (hx : x < 4294967296) (h : x / 2 ^ k % 2 = b) : bits .and .u32 ((x : Int) / 2 ^ k) 1 = b := by
  have h9 := and1 (x / 2 ^ k) (Nat.lt_of_le_of_lt (Nat.div_le_self _ _) hx)
  rw [h, Int.natCast_ediv, Int.natCast_pow] at h9
  exact h9
theorem xor_bit (F : List UInt8) (D t : Nat) : bits .xor .u8 (tb F D (t / 8) : Nat) ((2 : Int) ^ (t % 8) % 256) = ((tb F D (t / 8) ^^^ 2 ^ (t % 8) : Nat) : Int) := by
  have h8 : 2 ^ (t % 8) ≤ 2 ^ 7 := Nat.pow_le_pow_right (by omega) (by omega)
  have e : ((2 : Int) ^ (t % 8) % 256) = ((2 ^ (t % 8) : Nat) : Int) := by
    rw [show (2 : Int) ^ (t % 8) = ((2 ^ (t % 8) : Nat) : Int) by rw [Int.natCast_pow]; rfl]
    generalize 2 ^ (t % 8) = y at h8
    omega
  rw [e, u8_xor_nat _ _ (tb_lt F D _) (by omega)]
/-- the frame of s with D's bits turned -/
def turnS (s : ByteArray) (D : Nat) : ByteArray := strOfNums ((List.range (s.size + 6)).map fun i => ((tb (frm s).data.toList D i : Nat) : Int))
theorem turnS_data (s : ByteArray) (D : Nat) : (turnS s D).data.toList = turnL (frm s).data.toList D := by
  unfold turnS
  rw [strOfNums_data, List.map_map, ← turnL_eq, size_len, frm_size]
  rfl
set_option maxHeartbeats 1600000 in
theorem walkTurn (s : ByteArray) (a b : Int) (hs : s.size ≤ maxLen) (wa : (Lit.int .i64 a).wf = true) (wb : (Lit.int .u32 b).wf = true) (w : World) (ht : Tab w) :
    Calls Tryd.prog 6 #[.string s, .int .i64 a, .int .u32 b] w fun e w' => e = .returned (.bool true) ∧ Below w.heap.size w w' := by
  have HT := Lib.hid ht
  have L1 := Lib.hid hs
  have hb := bounds_u32 wb
  unfold maxLen at hs
  clear ht wa wb
  obtain ⟨x, rfl⟩ := Int.eq_ofNat_of_zero_le hb.1
  have hx : x < 4294967296 := by omega
  clear hb
  by_cases h : s.size ≤ 2000
  · by_cases h0 : x = 0
    · subst h0
      have HS : Hid (frameS s = frm s) := Lib.hid (by unfold frameS; rw [if_pos h])
      have HE : Hid (frameE s = 0) := Lib.hid (by unfold frameE; rw [if_pos h])
      go_enter Tryd.func6, Tryd.ntmps6
      go_wp2_with fail
      refine (frame_any s L1.out _ HT.out).mono ?_
      rintro e w1 ⟨rfl, hb1⟩
      rw [HS.out, HE.out]
      go_wp2_with fail
      refine (awake_any _ (HT.out.below hb1)).mono ?_
      rintro e w3 ⟨rfl, hb3⟩
      go_wp2
      go_ret
      exact ⟨rfl, nx hb1 hb3⟩
    · have HS : Hid (frameS s = frm s) := Lib.hid (by unfold frameS; rw [if_pos h])
      have HE : Hid (frameE s = 0) := Lib.hid (by unfold frameE; rw [if_pos h])
      have hz := frm_size s
      obtain ⟨c, hc, hcm⟩ := mod_any a (8 * (s.size + 6) - 47) (by omega)
      have hcm : (IntKind.u64.wrap a).tmod (8 * ((s.size : Int) + 6) - 16 - 31) = c := by rw [← hcm]; congr 1; omega
      have hne : ((x : Int) == 0) = false := by simpa using h0
      have hcv : ∀ w1 : World, (convert 9 33 (.string (frm s))).run Tryd.prog w1 = _ := fun w1 => run_bytes_of_string w1 9 33 5 (frm s) Tryd.underlying9 Tryd.underlying33 Tryd.underlying5
      go_enter Tryd.func6, Tryd.ntmps6
      go_wp2_with fail
      refine (frame_any s L1.out _ HT.out).mono ?_
      rintro e w1 ⟨rfl, hb1⟩
      rw [HS.out, HE.out]
      go_wp2
      go_loopw [43] (fun i wr => ∃ k : Nat, k ≤ 32 ∧ i = .int .i64 k ∧ Below w1.heap.size w1 wr ∧ RT w1.heap.size (s.size + 6) (frm s).data.toList (dk (16 + c) x k) wr) (fun i _ => 32 - (intOf i).toNat)
      case atStart => exact ⟨0, Nat.zero_le _, rfl, ((Below.refl _ _).drew).alloc (Nat.le_refl _) _, by rw [dk_zero]; exact rt_start (frm s) w1 _ _ _ hz rfl⟩
      case round =>
        obtain ⟨k, hk, rfl, bel, rt⟩ := hrel
        by_cases hlt : k < 32
        · by_cases hbit : x / 2 ^ k % 2 = 1
          · have ha : bits .and .u32 ((x : Int) / 2 ^ k) 1 = 1 := bit_and x k 1 hx hbit
            have hi : (16 + c + k) / 8 < s.size + 6 := by omega
            have hcl := rt.cell _ hi
            have hfz := rt.frozen _ hi
            have RTk := Lib.hid rt
            have HX := Lib.hid (xor_bit (frm s).data.toList (dk (16 + c) x k) (16 + c + k))
            have HD := Lib.hid (dk_one (16 + c) x k hbit)
            clear rt hcm hbit
            go_wp2
            rw [HX.out]
            go_roundw
            case rel => exact ⟨k + 1, by omega, by go_num, bel.setCell (Nat.le_refl _) _, by rw [HD.out]; exact RTk.out.step (dk_lt _ _ _) hi⟩
            case measure => simp [intOf]; omega
          · have hbit : x / 2 ^ k % 2 = 0 := by omega
            have ha : bits .and .u32 ((x : Int) / 2 ^ k) 1 = 0 := bit_and x k 0 hx hbit
            have RTk := Lib.hid rt
            have HD := Lib.hid (dk_no (16 + c) x k hbit)
            clear rt hcm hbit
            go_wp2
            go_roundw
            case rel => exact ⟨k + 1, by omega, by go_num, bel, by rw [HD.out]; exact RTk.out⟩
            case measure => simp [intOf]; omega
        · obtain rfl : k = 32 := by omega
          have HC : Hid (openE (turnS s (2 ^ (16 + c) * x)) 0 = 4) := Lib.hid (turned_open s _ (16 + c) x h (by omega) (by omega) hx h0 (turnS_data s _))
          have HC1 : Hid (openS (turnS s (2 ^ (16 + c) * x)) 0 = ByteArray.empty) := Lib.hid (by unfold openS; rw [HC.out, if_neg (by decide)])
          have HC2 : Hid (openA (turnS s (2 ^ (16 + c) * x)) 0 = 0) := Lib.hid (by unfold openA; rw [HC.out, if_neg (by decide)])
          have hc2 : (convert 33 9 (.slice (some ⟨w1.heap.size, 0, none⟩) (s.size + 6) (grownCap w1 (s.size + 6) 0 5))).run Tryd.prog wr = .ok (.string (turnS s (2 ^ (16 + c) * x))) wr :=
            conv_at (fun i => (tb (frm s).data.toList (2 ^ (16 + c) * x) i : Nat)) (s.size + 6) w1.heap.size _ wr (fun i hi => by
              rw [dk_full _ _ hx] at rt
              rw [rt.cell i hi]
              simp [hi])
          have HX : Hid ((turnS s (2 ^ (16 + c) * x)).size ≤ maxLen) := Lib.hid (by unfold turnS; rw [strOfNums_size, List.length_map, List.length_range]; unfold maxLen; omega)
          have HT1 := Lib.hid (HT.out.below (nx hb1 bel))
          clear rt hcm
          go_wp2_with fail
          refine (open_any _ 0 HX.out _ HT1.out).mono ?_
          rintro e w2 ⟨rfl, hb2⟩
          rw [HC.out, HC1.out, HC2.out]
          go_wp2_with fail
          refine (awake_any _ (HT1.out.below hb2)).mono ?_
          rintro e w3 ⟨rfl, hb3⟩
          go_wp2
          go_ret
          exact ⟨rfl, nx (nx (nx hb1 bel) hb2) hb3⟩
  · have HE : Hid (frameE s = 5) := Lib.hid (by unfold frameE; rw [if_neg h])
    go_enter Tryd.func6, Tryd.ntmps6
    go_wp2_with fail
    refine (frame_any s L1.out _ HT.out).mono ?_
    rintro e w1 ⟨rfl, hb1⟩
    rw [HE.out]
    go_wp2_with fail
    refine (awake_any _ (HT.out.below hb1)).mono ?_
    rintro e w3 ⟨rfl, hb3⟩
    go_wp2
    go_ret
    exact ⟨rfl, nx hb1 hb3⟩
end Go.Proofs.YtifbibdbnehbbaaDoor.Cr
