/- CrcLinear: the sums of four texts, of which one is the others' exclusive or, are so themselves: the call. -/
import Derived.Test.YtifbibdbnehbbaaDoorCrMa
import Derived.StillTailTactics
namespace Go.Proofs.YtifbibdbnehbbaaDoor.Cr
open Go.RowKit
set_option linter.unusedVariables false
open Go.Proofs.YtifbibdbnehbbaaDoor.Fx
def fx (s t u : ByteArray) (i : Nat) : Int := ((byteAt s i).toNat ^^^ (byteAt t i).toNat ^^^ (byteAt u i).toNat : Nat)
theorem fx_eq (s t u : ByteArray) (k : Nat) (h1 : k < s.size) (h2 : k < t.size) (h3 : k < u.size) :
    bits .xor .u8 (bits .xor .u8 (s[k].toNat : Int) (t[k].toNat : Int)) (u[k].toNat : Int) = fx s t u k := by
  have g1 := s[k].toNat_lt
  have g2 := t[k].toNat_lt
  have g3 := u[k].toNat_lt
  have g4 : s[k].toNat ^^^ t[k].toNat < 256 := Nat.xor_lt_two_pow (n := 8) g1 g2
  unfold fx
  rw [byteAt_eq s k h1, byteAt_eq t k h2, byteAt_eq u k h3, u8_xor_nat _ _ g1 g2, u8_xor_nat _ _ g4 g3]
theorem i64_xor_nat (a b : Nat) (ha : a < 4294967296) (hb : b < 4294967296) : bits .xor .i64 (a : Int) (b : Int) = ((a ^^^ b : Nat) : Int) := by
  have hx : a ^^^ b < 2 ^ 32 := Nat.xor_lt_two_pow (by omega) (by omega)
  show IntKind.i64.wrap ((BitVec.ofInt 64 (a : Int) ^^^ BitVec.ofInt 64 (b : Int)).toNat : Int) = _
  rw [BitVec.toNat_xor, ofInt_u64 a (by omega), ofInt_u64 b (by omega), IntKind.wrap_i64]
  omega
theorem xor3_get (a b c : List UInt8) (k : Nat) (ha : k ≤ a.length) (hb : k ≤ b.length) (hc : k ≤ c.length) :
    xor3 (a.take k) (b.take k) (c.take k) = (List.range k).map fun i => a.getD i 0 ^^^ b.getD i 0 ^^^ c.getD i 0 := by
  induction k generalizing a b c with
  | zero => simp [xor3]
  | succ k ih =>
    cases a with
    | nil => simp at ha
    | cons x a => cases b with
      | nil => simp at hb
      | cons y b => cases c with
        | nil => simp at hc
        | cons z c =>
          rw [List.take_succ_cons, List.take_succ_cons, List.take_succ_cons, xor3, ih a b c (by simpa using ha) (by simpa using hb) (by simpa using hc), List.range_succ_eq_map, List.map_cons, List.map_map]
          rfl
theorem lin_data (s t u : ByteArray) (k : Nat) (h1 : k ≤ s.size) (h2 : k ≤ t.size) (h3 : k ≤ u.size) :
    (strOfNums ((List.range k).map (fx s t u))).data.toList = xor3 (s.data.toList.take k) (t.data.toList.take k) (u.data.toList.take k) := by
  rw [strOfNums_data, List.map_map, xor3_get _ _ _ _ (by rw [size_len]; exact h1) (by rw [size_len]; exact h2) (by rw [size_len]; exact h3)]
  apply List.map_congr_left
  intro i _
  show UInt8.ofNat (fx s t u i).toNat = _
  unfold fx byteAt
  rw [Int.toNat_natCast, ← UInt8.toNat_xor, ← UInt8.toNat_xor, UInt8.ofNat_toNat]
theorem lin_sum (s t u : ByteArray) (k : Nat) (h1 : k ≤ s.size) (h2 : k ≤ t.size) (h3 : k ≤ u.size) :
    bits .xor .i64 (bits .xor .i64 (sumS (s.extract 0 k) : Nat) (sumS (t.extract 0 k) : Nat)) (sumS (u.extract 0 k) : Nat) = ((sumS (strOfNums ((List.range k).map (fx s t u))) : Nat) : Int) := by
  have g1 := sumS_lt (s.extract 0 k)
  have g2 := sumS_lt (t.extract 0 k)
  have g3 := sumS_lt (u.extract 0 k)
  have g4 : sumS (s.extract 0 k) ^^^ sumS (t.extract 0 k) < 4294967296 := Nat.xor_lt_two_pow (n := 32) g1 g2
  rw [i64_xor_nat _ _ g1 g2, i64_xor_nat _ _ g4 g3]
  unfold sumS
  rw [lin_data s t u k h1 h2 h3, Lib.extract_data, Lib.extract_data, Lib.extract_data, List.drop_zero, List.drop_zero, List.drop_zero, Nat.sub_zero, sum_xor3 _ _ _ (by simp only [List.length_take, size_len]; omega) (by simp only [List.length_take, size_len]; omega)]
theorem ext_le (x : ByteArray) (k : Nat) (h : k ≤ 4000) : (x.extract 0 k).size ≤ maxLen := by rw [ByteArray.size_extract]; unfold maxLen; omega
theorem min3 (s t u : Nat) : ∃ n : Nat, (if (u : Int) < (if t < s then (t : Int) else (s : Int)) then (u : Int) else if t < s then (t : Int) else (s : Int)) = (n : Int) ∧ n ≤ s ∧ n ≤ t ∧ n ≤ u := by
  by_cases h1 : t < s
  · by_cases h2 : u < t
    · exact ⟨u, by rw [if_pos h1, if_pos (by omega)], by omega, by omega, by omega⟩
    · exact ⟨t, by rw [if_pos h1, if_neg (by omega)], by omega, by omega, by omega⟩
  · by_cases h2 : u < s
    · exact ⟨u, by rw [if_neg h1, if_pos (by omega)], by omega, by omega, by omega⟩
    · exact ⟨s, by rw [if_neg h1, if_neg (by omega)], by omega, by omega, by omega⟩
set_option maxHeartbeats 1600000 in
theorem walkLin (s t u : ByteArray) (hs : s.size ≤ maxLen) (ht : t.size ≤ maxLen) (hu : u.size ≤ maxLen) (w : World) (hT : Tab w) :
    Calls Tryd.prog 7 #[.string s, .string t, .string u] w fun e w' => e = .returned (.bool true) ∧ Below w.heap.size w w' := by
  have HT := Lib.hid hT
  unfold maxLen at hs ht hu
  clear hT
  have g := min3 s.size t.size u.size
  obtain ⟨n, hn, n1, n2, n3⟩ := g
  by_cases h : n ≤ 4000
  · have hmk := make_f (fx s t u) n (by omega)
    go_enter Tryd.func7, Tryd.ntmps7
    go_wp2
    go_loopw [23] (fun i wr => ∃ (k : Nat) (w1 : World), k ≤ n ∧ i = .int .i64 k ∧ w.heap.size = w1.heap.size ∧ Below w.heap.size w w1 ∧ wr = w1.alloc (.cells (arrF (fx s t u) n k) 5)) (fun i _ => n - (intOf i).toNat)
    case atStart => exact ⟨0, w, Nat.zero_le _, rfl, rfl, Below.refl _ _, rfl⟩
    case round =>
      obtain ⟨k, w1, hk, rfl, hw, bel, rfl⟩ := hrel
      by_cases hlt : k < n
      · have HX := Lib.hid (fx_eq s t u k (by omega) (by omega) (by omega))
        have hc := arrF_at (fx s t u) n k hlt
        have k1 : k < s.size := by omega
        have k2 : k < t.size := by omega
        have k3 : k < u.size := by omega
        have p0 : (0 : Int) ≤ (k : Int) := by omega
        have p1 : (k : Int) < (s.size : Int) := by omega
        have p2 : (k : Int) < (t.size : Int) := by omega
        have p3 : (k : Int) < (u.size : Int) := by omega
        have p4 : (k : Int) < (n : Int) := by omega
        go_wp2
        go_still_tail 14, (by kernel_rfl)
        change wpList _ _ _ _ _ (World.drew _)
        go_wp2
        rw [HX.out, ← hw]
        go_roundw
        case rel => exact ⟨k + 1, w1.drew, by omega, by go_num, hw, bel.drew, by rw [← arrF_succ]; rfl⟩
        case measure => simp [intOf]; omega
      · obtain rfl : k = n := by omega
        have HT1 := Lib.hid (HT.out.below ((bel.alloc (by omega) (.cells (arrF (fx s t u) k k) 5)).drew))
        have hcell : ∀ i, i < k → (w1.alloc (.cells (arrF (fx s t u) k k) 5)).drew.cell? ⟨w1.heap.size, i, none⟩ = some (.int .u8 (((List.range k).map (fx s t u)).getD i 0)) := fun i hi => by
          show (w1.alloc (.cells (arrF (fx s t u) k k) 5)).cell? ⟨w1.heap.size, i, none⟩ = _
          rw [World.cell?_alloc_at _ _ _ _ rfl]; exact arrF_get (fx s t u) k i hi
        have HCELL := Lib.hid hcell
        clear hcell
        have hcv : (convert 33 9 (.slice (some ⟨w1.heap.size, 0, none⟩) k k)).run Tryd.prog (w1.alloc (.cells (arrF (fx s t u) k k) 5)).drew = .ok (.string (strOfNums ((List.range k).map (fx s t u)))) (w1.alloc (.cells (arrF (fx s t u) k k) 5)).drew := conv_f (fx s t u) k w1.drew
        have q1 : (k : Int) ≤ (s.size : Int) := by omega
        have q2 : (k : Int) ≤ (t.size : Int) := by omega
        have q3 : (k : Int) ≤ (u.size : Int) := by omega
        have q0 : (0 : Int) ≤ (k : Int) := by omega
        have HX4 : Hid ((strOfNums ((List.range k).map (fx s t u))).size ≤ maxLen) := Lib.hid (by rw [strOfNums_size, List.length_map, List.length_range]; unfold maxLen; omega)
        have HS := Lib.hid (lin_sum s t u k n1 n2 n3)
        go_wp2
        go_region_held3 (fun wr => (convert 33 9 (.slice (some ⟨w1.heap.size, 0, none⟩) k k)).run Tryd.prog wr = .ok (.string (strOfNums ((List.range k).map (fx s t u)))) wr) (first | exact hcv | exact conv_at _ _ _ _ _ (fun i hi => by rw [hb3.cell (by show w1.heap.size < (w1.heap.push _).size; rw [Array.size_push]; omega)]; exact HCELL.out i hi)) ((first | (go_at_call 12; (first | with_reducible refine (sum_any (ByteArray.extract _ 0 k) (ext_le _ k h) _ HT1.out).mono ?_ | with_reducible refine (sum_any (strOfNums _) HX4.out _ HT1.out).mono ?_); rintro e w2 ⟨rfl, rfl⟩) | (go_at_call 9; refine (awake_any _ HT1.out).mono ?_; rintro e w3 ⟨rfl, hb3⟩)))
        go_wp2
        go_ret
        exact ⟨rfl, nx ((bel.alloc (by omega) _).drew) hb3⟩
  · go_enter Tryd.func7, Tryd.ntmps7
    go_wp2_with fail
    refine (awake_any _ HT.out).mono ?_
    rintro e w3 ⟨rfl, hb3⟩
    go_wp2
    go_ret
    exact ⟨rfl, hb3⟩
end Go.Proofs.YtifbibdbnehbbaaDoor.Cr
