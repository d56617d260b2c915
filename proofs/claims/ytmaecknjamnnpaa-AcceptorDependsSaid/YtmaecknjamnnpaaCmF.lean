/- ofNumbers, one; Keys of package command. -/
import Derived.Test.YtmaecknjamnnpaaCmA
import Derived.Laws.AppendOwn
import Derived.StillTailTactics
import Derived.Test.YtmaecknjamnnpaaRf
namespace Go.Proofs.Ytmaecknjamnnpaa.Cm
open Go.RowKit
set_option linter.unusedVariables false
open Go.Proofs.Ytmaecknjamnnpaa.Rw
open Go.Proofs.Ytmaecknjamnnpaa.Fx (ret_v ret_bool ret_int)
theorem of_v9 (l : Nat → Int) : fc (v9 (l 1) (l 5) (l 0) (l 2) (l 3) (l 8) (l 4) (l 6) (l 7)) = fc (ofF l) := fc_ext rfl rfl rfl rfl rfl rfl rfl rfl rfl
def oneC : Nat → Int := v9 3 9 3 1 0 0 1 300 7
/-- A slice of one key: the account's. -/
def K1 (c : Nat → Int) (v : Value) (w : World) : Prop := ∃ b cap, v = .slice (some ⟨b, 0, none⟩) 1 cap ∧ b < w.heap.size ∧ w.cell? ⟨b, 0, none⟩ = some (.bool false) ∧ w.cell? ⟨b, 1, none⟩ = some (.int .i64 (c 0))
/-- A slice of two keys: the account's, the lane's. -/
def K2 (c : Nat → Int) (v : Value) (w : World) : Prop := ∃ b cap, v = .slice (some ⟨b, 0, none⟩) 2 cap ∧ b < w.heap.size ∧ w.cell? ⟨b, 0, none⟩ = some (.bool false) ∧ w.cell? ⟨b, 1, none⟩ = some (.int .i64 (c 0)) ∧ w.cell? ⟨b, 2, none⟩ = some (.bool true) ∧ w.cell? ⟨b, 3, none⟩ = some (.int .i64 (c 3))
theorem K1.stays (c : Nat → Int) (v : Value) (w w' : World) (h : K1 c v w) (k : Below w.heap.size w w') : K1 c v w' := by
  obtain ⟨b, cap, e, hb, h0, h1⟩ := h
  exact ⟨b, cap, e, Nat.lt_of_lt_of_le hb k.size, by rw [k.cell (p := ⟨b, 0, none⟩) hb, h0], by rw [k.cell (p := ⟨b, 1, none⟩) hb, h1]⟩
theorem K2.stays (c : Nat → Int) (v : Value) (w w' : World) (h : K2 c v w) (k : Below w.heap.size w w') : K2 c v w' := by
  obtain ⟨b, cap, e, hb, h0, h1, h2, h3⟩ := h
  exact ⟨b, cap, e, Nat.lt_of_lt_of_le hb k.size, by rw [k.cell (p := ⟨b, 0, none⟩) hb, h0], by rw [k.cell (p := ⟨b, 1, none⟩) hb, h1], by rw [k.cell (p := ⟨b, 2, none⟩) hb, h2], by rw [k.cell (p := ⟨b, 3, none⟩) hb, h3]⟩
theorem hasLane_is {k : Int} {r : Bool} (h : Hid (laneB k = r)) (w : World) :
    Calls Try.prog 55 #[.int .i64 k] w fun e w' => e = .returned (.bool r) ∧ w = w' := by
  rw [← h.out]; exact hasLane_any k w
theorem lane_is {k : Int} {r : Bool} (h : Hid (laneB k = r)) (w : World) :
    Calls Try.prog 71 #[.int .i64 k] w fun e w' => e = .returned (.bool r) ∧ w = w' := by
  rw [← h.out]; exact lane_any k w
set_option maxHeartbeats 400000 in
theorem keys0 (c : Nat → Int) (h : (c 2 == 0) = true) (w : World) :
    Calls Try.prog 38 #[.agg (fc c)] w fun e w' => e = .returned (.slice none 0 0) ∧ Below w.heap.size w w' := by
  go_enter Try.func38, Try.ntmps38
  go_wp2
  go_ret
  exact ⟨rfl, below1 _ _⟩
def Post (F : Value → World → Prop) (w : World) (e : Ending) (w' : World) : Prop := ∃ v, e = .returned v ∧ Below w.heap.size w w' ∧ F v w'
set_option maxHeartbeats 400000 in
theorem keys1 (c : Nat → Int) (h : (c 2 == 0) = false) (k : Hid (laneB (c 2) = false)) (w : World) :
    Calls Try.prog 38 #[.agg (fc c)] w (Post (K1 c) w) := by
  go_enter Try.func38, Try.ntmps38
  go_wp2_with fail
  refine (hasLane_is k _).mono ?_
  rintro e w' ⟨rfl, rfl⟩
  go_wp2
  go_ret
  exact ⟨_, rfl, below3 _ _ _ _, _, _, rfl, by simp, by simp [go_sem], by simp [go_sem]⟩
set_option maxHeartbeats 400000 in
theorem keys2 (c : Nat → Int) (h : (c 2 == 0) = false) (k : Hid (laneB (c 2) = true)) (w : World) :
    Calls Try.prog 38 #[.agg (fc c)] w (Post (K2 c) w) := by
  go_enter Try.func38, Try.ntmps38
  go_wp2_with fail
  refine (hasLane_is k _).mono ?_
  rintro e w' ⟨rfl, rfl⟩
  go_wp2
  go_ret
  exact ⟨_, rfl, below3 _ _ _ _, _, _, rfl, by simp, by simp [go_sem], by simp [go_sem], by simp [go_sem], by simp [go_sem]⟩
set_option maxHeartbeats 400000 in
theorem rKeys0 (c : Nat → Int) (h : (c 2 == 0) = true) (w : World) :
    Calls Try.prog 67 #[.agg (fc c)] w fun e w' => e = .returned (.slice none 0 0) ∧ Below w.heap.size w w' := by
  go_enter Try.func67, Try.ntmps67
  go_wp2
  go_ret
  exact ⟨rfl, below1 _ _⟩
set_option maxHeartbeats 400000 in
theorem rKeys1 (c : Nat → Int) (h : (c 2 == 0) = false) (k : Hid (laneB (c 2) = false)) (w : World) :
    Calls Try.prog 67 #[.agg (fc c)] w (Post (K1 c) w) := by
  go_enter Try.func67, Try.ntmps67
  go_wp2_with fail
  refine (lane_is k _).mono ?_
  rintro e w' ⟨rfl, rfl⟩
  go_wp2
  go_ret
  exact ⟨_, rfl, below2 _ _ _, _, _, rfl, by simp, by simp [go_sem], by simp [go_sem]⟩
end Go.Proofs.Ytmaecknjamnnpaa.Cm
/- Keys of both programs in one wording; slices.Index and slices.Contains at keys. -/
namespace Go.Proofs.Ytmaecknjamnnpaa.Cm
open Go.RowKit
set_option linter.unusedVariables false
open Go.Proofs.Ytmaecknjamnnpaa.Rw
open Go.Proofs.Ytmaecknjamnnpaa.Fx (ret_v ret_bool ret_int)
set_option maxHeartbeats 800000 in
theorem rKeys2 (c : Nat → Int) (h : (c 2 == 0) = false) (k : Hid (laneB (c 2) = true)) (w : World) :
    Calls Try.prog 67 #[.agg (fc c)] w (Post (K2 c) w) := by
  go_enter Try.func67, Try.ntmps67
  go_wp2_with fail
  refine (lane_is k _).mono ?_
  rintro e w' ⟨rfl, rfl⟩
  go_wp2
  go_ret
  exact ⟨_, rfl, (below4 _ _ _ _ _).drew, _, _, rfl, by simp, by simp [go_sem, Array.getElem?_append], by simp [go_sem, Array.getElem?_append], by simp [go_sem, Array.getElem?_append], by simp [go_sem, Array.getElem?_append]⟩
/-- How many keys a command with a kind has; which ones. -/
def nk (c : Nat → Int) : Nat := if laneB (c 2) then 2 else 1
def kl (j : Nat) : Bool := j == 1
def ki (c : Nat → Int) (j : Nat) : Int := if j = 1 then c 3 else c 0
/-- A slice of a command's keys. -/
def KN (c : Nat → Int) (v : Value) (w : World) : Prop := ∃ b cap, v = .slice (some ⟨b, 0, none⟩) (nk c) cap ∧ b < w.heap.size ∧ ∀ j, j < nk c → w.cell? ⟨b, j * 2, none⟩ = some (.bool (kl j)) ∧ w.cell? ⟨b, j * 2 + 1, none⟩ = some (.int .i64 (ki c j))
def KV (c : Nat → Int) (v : Value) (w : World) : Prop := (c 2 = 0 ∧ v = .slice none 0 0) ∨ (c 2 ≠ 0 ∧ KN c v w)
theorem KV.stays (c : Nat → Int) (v : Value) (w w' : World) (h : KV c v w) (k : Below w.heap.size w w') : KV c v w' := by
  rcases h with h | ⟨h, b, cap, e, hb, hc⟩
  · exact .inl h
  · exact .inr ⟨h, b, cap, e, Nat.lt_of_lt_of_le hb k.size, fun j hj => ⟨by rw [k.cell (p := ⟨b, j * 2, none⟩) hb, (hc j hj).1], by rw [k.cell (p := ⟨b, j * 2 + 1, none⟩) hb, (hc j hj).2]⟩⟩
theorem KN.of1 {c : Nat → Int} {v : Value} {w : World} (hl : laneB (c 2) = false) (h : K1 c v w) : KN c v w := by
  obtain ⟨b, cap, e, hb, h0, h1⟩ := h
  have hn : nk c = 1 := by unfold nk; rw [hl]; rfl
  refine ⟨b, cap, by rw [hn, e], hb, fun j hj => ?_⟩
  obtain rfl : j = 0 := by omega
  exact ⟨h0, h1⟩
theorem KN.of2 {c : Nat → Int} {v : Value} {w : World} (hl : laneB (c 2) = true) (h : K2 c v w) : KN c v w := by
  obtain ⟨b, cap, e, hb, h0, h1, h2, h3⟩ := h
  have hn : nk c = 2 := by unfold nk; rw [hl]; rfl
  refine ⟨b, cap, by rw [hn, e], hb, fun j hj => ?_⟩
  rcases (show j = 0 ∨ j = 1 by omega) with rfl | rfl
  · exact ⟨h0, h1⟩
  · exact ⟨h2, h3⟩
theorem keys_any (c : Nat → Int) (w : World) : Calls Try.prog 38 #[.agg (fc c)] w (Post (KV c) w) := by
  by_cases h : c 2 = 0
  · exact (keys0 c (by simp [h]) w).mono fun e w' ⟨he, hb⟩ => ⟨_, he, hb, .inl ⟨h, rfl⟩⟩
  · cases hl : laneB (c 2)
    · exact (keys1 c (by simp [h]) (Lib.hid hl) w).mono fun e w' ⟨v, he, hb, k⟩ => ⟨v, he, hb, .inr ⟨h, KN.of1 hl k⟩⟩
    · exact (keys2 c (by simp [h]) (Lib.hid hl) w).mono fun e w' ⟨v, he, hb, k⟩ => ⟨v, he, hb, .inr ⟨h, KN.of2 hl k⟩⟩
theorem rKeys_any (c : Nat → Int) (w : World) : Calls Try.prog 67 #[.agg (fc c)] w (Post (KV c) w) := by
  by_cases h : c 2 = 0
  · exact (rKeys0 c (by simp [h]) w).mono fun e w' ⟨he, hb⟩ => ⟨_, he, hb, .inl ⟨h, rfl⟩⟩
  · cases hl : laneB (c 2)
    · exact (rKeys1 c (by simp [h]) (Lib.hid hl) w).mono fun e w' ⟨v, he, hb, k⟩ => ⟨v, he, hb, .inr ⟨h, KN.of1 hl k⟩⟩
    · exact (rKeys2 c (by simp [h]) (Lib.hid hl) w).mono fun e w' ⟨v, he, hb, k⟩ => ⟨v, he, hb, .inr ⟨h, KN.of2 hl k⟩⟩
/-- Two keys compared. -/
def keyB (a : Bool) (x : Int) (b : Bool) (y : Int) : Bool := (a == b) && (x == y)
theorem keyB_iff {a b : Bool} {x y : Int} : keyB a x b y = true ↔ a = b ∧ x = y := by simp [keyB]
theorem fieldsK : Try.prog.underlying 70 = some (.struct (Try.prog.fieldsOf 70)) := by kernel_rfl
theorem eqK (a : Bool) (x : Int) (b : Bool) (y : Int) (w : World) : (Op.equalIn 10000 70 (.agg #[.bool a, .int .i64 x]) (.agg #[.bool b, .int .i64 y])).run Try.prog w = .ok (keyB a x b y) w := by
  rw [run_equalIn_agg w 9999 _ _ _ fieldsK (by kernel_rfl)]
  simp only [Program.fieldsOf, Try.underlying70]
  simp [Op.eqFields, go_sem, keyB]
  by_cases h1 : a = b <;> by_cases h2 : x = y <;> simp [h1, h2]
theorem eqlK (a : Bool) (x : Int) (b : Bool) (y : Int) (w : World) : (binOp .eql 70 (.agg #[.bool a, .int .i64 x]) (.agg #[.bool b, .int .i64 y])).run Try.prog w = .ok (.bool (keyB a x b y)) w := by
  rw [run_eql_struct, eqK]; rfl
theorem neqK (a : Bool) (x : Int) (b : Bool) (y : Int) (w : World) : (binOp .neq 70 (.agg #[.bool a, .int .i64 x]) (.agg #[.bool b, .int .i64 y])).run Try.prog w = .ok (.bool (!keyB a x b y)) w := by
  rw [run_neq_struct, eqK]; rfl
theorem guardK (op : BinOp) (x y : Operand) (a : Bool) (p : Int) (b : Bool) (q : Int) (w : World) : (eqGuard op 70 x y (.agg #[.bool a, .int .i64 p]) (.agg #[.bool b, .int .i64 q])).run Try.prog w = .ok () w :=
  run_eqGuard_agg w op _ x y _ _ (by kernel_rfl)
attribute [go_sem ↓] eqlK neqK guardK
/-- Is a key among the first n ones of a command? -/
def hasF (c : Nat → Int) (n : Nat) (l : Bool) (x : Int) : Bool := (List.range n).any fun j => keyB l x (kl j) (ki c j)
theorem hasF_zero (c : Nat → Int) (l : Bool) (x : Int) : hasF c 0 l x = false := rfl
theorem hasF_succ (c : Nat → Int) (n : Nat) (l : Bool) (x : Int) : hasF c (n + 1) l x = (hasF c n l x || keyB l x (kl n) (ki c n)) := by
  unfold hasF; rw [List.range_succ, List.any_append]; simp
def hasB (c : Nat → Int) (l : Bool) (x : Int) : Bool := (c 2 != 0) && hasF c (nk c) l x
theorem nk_bd (c : Nat → Int) : 1 ≤ nk c ∧ nk c ≤ 2 := by unfold nk; split <;> omega
end Go.Proofs.Ytmaecknjamnnpaa.Cm
/- slices.Index and slices.Contains at keys. -/
namespace Go.Proofs.Ytmaecknjamnnpaa.Cm
open Go.RowKit
set_option linter.unusedVariables false
open Go.Proofs.Ytmaecknjamnnpaa.Rw
open Go.Proofs.Ytmaecknjamnnpaa.Fx (ret_v ret_bool ret_int)
/-- The first place, or -1. -/
def idxF (c : Nat → Int) (l : Bool) (x : Int) : Nat → Int
  | 0 => -1
  | n + 1 => if hasF c n l x then idxF c l x n else if keyB l x (kl n) (ki c n) then n else -1
theorem idxF_ge (c : Nat → Int) (l : Bool) (x : Int) (n : Nat) : decide (0 ≤ idxF c l x n) = hasF c n l x := by
  induction n with
  | zero => rfl
  | succ n ih =>
    rw [idxF, hasF_succ]
    cases h : hasF c n l x
    · cases k : keyB l x (kl n) (ki c n) <;> simp
    · rw [h] at ih; simpa using ih
theorem idxF_no {c : Nat → Int} {l : Bool} {x : Int} (n : Nat) (h : hasF c n l x = false) : idxF c l x n = -1 := by
  induction n with
  | zero => rfl
  | succ n ih =>
    rw [hasF_succ, Bool.or_eq_false_iff] at h
    rw [idxF, h.1, h.2]; rfl
theorem hasF_mono {c : Nat → Int} {l : Bool} {x : Int} {n m : Nat} (h : n ≤ m) (k : hasF c n l x = true) : hasF c m l x = true := by
  induction m with
  | zero => rw [← Nat.le_zero.1 h]; exact k
  | succ m ih =>
    by_cases e : n = m + 1
    · rw [← e]; exact k
    · rw [hasF_succ, ih (by omega)]; rfl
theorem idxF_at {c : Nat → Int} {l : Bool} {x : Int} (k n : Nat) (hk : k < n) (h0 : hasF c k l x = false) (h : keyB l x (kl k) (ki c k) = true) : idxF c l x n = k := by
  induction n with
  | zero => omega
  | succ n ih =>
    rw [idxF]
    by_cases e : k = n
    · subst e; rw [h0, h]; simp
    · have h1 : hasF c (k + 1) l x = true := by rw [hasF_succ, h, Bool.or_true]
      rw [hasF_mono (show k + 1 ≤ n by omega) h1, if_pos rfl]
      exact ih (by omega)
theorem bdrewN {B : Nat} {a w : World} (h : Below B a w) (n : Nat) : Below B a (w.drewN n) := ⟨h.os, h.tape, h.output, h.size, h.block⟩
set_option maxHeartbeats 400000 in
theorem index_nil (l : Bool) (x : Int) (w : World) :
    Calls Try.prog 56 #[.slice none 0 0, .agg #[.bool l, .int .i64 x]] w fun e w' => e = .returned (.int .i64 (-1)) ∧ Below w.heap.size w w' := by
  go_enter Try.func56, Try.ntmps56
  go_wp2
  go_loopw [8] (fun i wr => i = .int .i64 0 ∧ Below w.heap.size w wr) (fun i _ => 0)
  case atStart => exact ⟨rfl, below1 _ _⟩
  case round =>
    obtain ⟨rfl, hb⟩ := hrel
    go_wp2
    go_ret
    exact ⟨rfl, hb⟩
set_option maxHeartbeats 800000 in
theorem index_any (c : Nat → Int) (l : Bool) (x : Int) (b cap : Nat) (w : World) (hb : b < w.heap.size) (hc : ∀ j, j < nk c → w.cell? ⟨b, j * 2, none⟩ = some (.bool (kl j)) ∧ w.cell? ⟨b, j * 2 + 1, none⟩ = some (.int .i64 (ki c j))) :
    Calls Try.prog 56 #[.slice (some ⟨b, 0, none⟩) (nk c) cap, .agg #[.bool l, .int .i64 x]] w fun e w' => e = .returned (.int .i64 (idxF c l x (nk c))) ∧ Below w.heap.size w w' := by
  have HC := Lib.hid hc
  have hn := nk_bd c
  obtain ⟨n, hN⟩ : ∃ n, n = nk c := ⟨_, rfl⟩
  rw [← hN] at hn ⊢
  have HN := Lib.hid hN
  obtain ⟨hn1, hn2⟩ := hn
  clear hc hN
  go_enter Try.func56, Try.ntmps56
  go_wp2
  obtain ⟨W, hW⟩ : ∃ W, W = w.alloc (.cells #[.bool l, .int .i64 x] 70) := ⟨_, rfl⟩
  have hz : w.heap.size < W.heap.size := by rw [hW]; simp
  have hb0 : Below w.heap.size w W := hW ▸ below1 w _
  have k0 : W.cell? ⟨w.heap.size, 0, none⟩ = some (.bool l) := by rw [hW]; simp [go_sem]
  have k1 : W.cell? ⟨w.heap.size, 1, none⟩ = some (.int .i64 x) := by rw [hW]; simp [go_sem]
  have hbW : b < W.heap.size := by omega
  rw [← hW]
  have HK : Hid (∀ j, j < n → W.cell? ⟨b, j * 2, none⟩ = some (.bool (kl j)) ∧ W.cell? ⟨b, j * 2 + 1, none⟩ = some (.int .i64 (ki c j))) := Lib.hid fun j hj => by
    rw [hb0.cell (p := ⟨b, j * 2, none⟩) hb, hb0.cell (p := ⟨b, j * 2 + 1, none⟩) hb]
    exact HC.out j (HN.out ▸ hj)
  clear hW HC
  go_loopw [8] (fun i wr => ∃ k : Nat, k ≤ n ∧ i = .int .i64 k ∧ Below W.heap.size W wr ∧ hasF c k l x = false) (fun i _ => n - (intOf i).toNat)
  case atStart => exact ⟨0, Nat.zero_le _, rfl, Below.refl _ _, rfl⟩
  case round =>
    obtain ⟨k, hk, rfl, hb1, hno⟩ := hrel
    have HNo := Lib.hid hno
    clear hno
    by_cases hlt : k < n
    · have hlt2 : (k : Int) < n := by omega
      have hc := HK.out k hlt
      obtain ⟨hc0, hc1⟩ := hc
      have hB := bcell hb1
      obtain ⟨c1, f1, r1, p1⟩ := hB
      cases hq : keyB l x (kl k) (ki c k)
      · have HS : Hid (hasF c (k + 1) l x = false) := Lib.hid (by rw [hasF_succ, HNo.out, hq]; rfl)
        go_wp2
        go_quiet (fail)
        go_wp2
        go_roundw
        case rel => exact ⟨k + 1, by omega, by go_num, bdrewN hb1 _, HS.out⟩
        case measure => simp [intOf]; omega
      · have HS : Hid (idxF c l x n = k) := Lib.hid (idxF_at k n hlt HNo.out hq)
        go_wp2
        go_quiet (fail)
        go_wp2
        go_ret
        exact ⟨ret_int HS.out.symm, nx hb0 (bdrewN hb1 _)⟩
    · obtain rfl : k = n := by omega
      have HS : Hid (idxF c l x k = -1) := Lib.hid (idxF_no k HNo.out)
      go_wp2
      go_ret
      exact ⟨ret_int HS.out.symm, nx hb0 hb1⟩
theorem index_kv (c : Nat → Int) (l : Bool) (x : Int) (v : Value) (w : World) (h : KV c v w) :
    Calls Try.prog 56 #[v, .agg #[.bool l, .int .i64 x]] w fun e w' => (∃ k : Int, e = .returned (.int .i64 k) ∧ decide (0 ≤ k) = hasB c l x) ∧ Below w.heap.size w w' := by
  rcases h with ⟨h, rfl⟩ | ⟨h, b, cap, rfl, hb, hc⟩
  · exact (index_nil l x w).mono fun e w' ⟨he, hb⟩ => ⟨⟨_, he, by simp [hasB, h]⟩, hb⟩
  · exact (index_any c l x b cap w hb hc).mono fun e w' ⟨he, hb⟩ => ⟨⟨_, he, by rw [idxF_ge]; simp [hasB, h]⟩, hb⟩
set_option maxHeartbeats 400000 in
theorem contains_kv (c : Nat → Int) (l : Bool) (x : Int) (v : Value) (w : World) (h : KV c v w) :
    Calls Try.prog 39 #[v, .agg #[.bool l, .int .i64 x]] w fun e w' => e = .returned (.bool (hasB c l x)) ∧ Below w.heap.size w w' := by
  have HS := Lib.hid (KV.stays c v w _ h (below1 w (.cells #[.bool l, .int .i64 x] 70)))
  clear h
  go_enter Try.func39, Try.ntmps39
  go_wp2_with fail
  refine (index_kv c l x v _ HS.out).mono ?_
  rintro e w1 ⟨⟨k, rfl, hk⟩, hb1⟩
  have HK := Lib.hid hk
  clear hk
  go_wp2
  go_ret
  exact ⟨ret_bool HK.out, nx (below1 _ _) hb1⟩
end Go.Proofs.Ytmaecknjamnnpaa.Cm
/- Meets of package command. -/
namespace Go.Proofs.Ytmaecknjamnnpaa.Cm
open Go.RowKit
set_option linter.unusedVariables false
open Go.Proofs.Ytmaecknjamnnpaa.Rw
open Go.Proofs.Ytmaecknjamnnpaa.Fx (ret_v ret_bool ret_int)
/-- Is one of the first n keys of a among b's? -/
def anyF (a b : Nat → Int) (n : Nat) : Bool := (List.range n).any fun j => hasB b (kl j) (ki a j)
theorem anyF_succ (a b : Nat → Int) (n : Nat) : anyF a b (n + 1) = (anyF a b n || hasB b (kl n) (ki a n)) := by
  unfold anyF; rw [List.range_succ, List.any_append]; simp
theorem hasF_1 (c : Nat → Int) (l : Bool) (x : Int) : hasF c 1 l x = keyB l x false (c 0) := by rw [hasF_succ, hasF_zero]; rfl
theorem hasF_2 (c : Nat → Int) (l : Bool) (x : Int) : hasF c 2 l x = (keyB l x false (c 0) || keyB l x true (c 3)) := by rw [hasF_succ, hasF_1]; rfl
theorem meet_any (a b : Nat → Int) (h : a 2 ≠ 0) : anyF a b (nk a) = meetB a b := by
  have h1 : (a 2 != 0) = true := by simp [h]
  have e0 : ∀ c : Nat → Int, (kl 0, ki c 0) = (false, c 0) := fun _ => rfl
  have e1 : ∀ c : Nat → Int, (kl 1, ki c 1) = (true, c 3) := fun _ => rfl
  have a1 : anyF a b 1 = hasB b false (a 0) := by rw [anyF_succ]; rfl
  have a2 : anyF a b 2 = (hasB b false (a 0) || hasB b true (a 3)) := by rw [anyF_succ, a1]; rfl
  unfold meetB
  rw [h1]
  cases la : laneB (a 2) <;> cases lb : laneB (b 2)
  · have na : nk a = 1 := by unfold nk; rw [la]; rfl
    have nb : nk b = 1 := by unfold nk; rw [lb]; rfl
    rw [na, a1, hasB, nb, hasF_1]; simp [keyB]
  · have na : nk a = 1 := by unfold nk; rw [la]; rfl
    have nb : nk b = 2 := by unfold nk; rw [lb]; rfl
    rw [na, a1, hasB, nb, hasF_2]; simp [keyB]
  · have na : nk a = 2 := by unfold nk; rw [la]; rfl
    have nb : nk b = 1 := by unfold nk; rw [lb]; rfl
    rw [na, a2, hasB, hasB, nb, hasF_1, hasF_1]; simp [keyB]
  · have na : nk a = 2 := by unfold nk; rw [la]; rfl
    have nb : nk b = 2 := by unfold nk; rw [lb]; rfl
    rw [na, a2, hasB, hasB, nb, hasF_2, hasF_2]; simp [keyB]
    cases (b 2 != 0) <;> simp
theorem meet_none (a b : Nat → Int) (h : a 2 = 0) : meetB a b = false := by unfold meetB; simp [h]
theorem anyF_mono {a b : Nat → Int} {n m : Nat} (h : n ≤ m) (k : anyF a b n = true) : anyF a b m = true := by
  induction m with
  | zero => rw [← Nat.le_zero.1 h]; exact k
  | succ m ih =>
    by_cases e : n = m + 1
    · rw [← e]; exact k
    · rw [anyF_succ, ih (by omega)]; rfl
set_option maxHeartbeats 1600000 in
theorem meets_any (a b : Nat → Int) (w : World) :
    Calls Try.prog 20 #[.agg (fc a), .agg (fc b)] w fun e w' => e = .returned (.bool (meetB a b)) ∧ Below w.heap.size w w' := by
  go_enter Try.func20, Try.ntmps20
  go_wp2_with fail
  obtain ⟨W, hW⟩ : ∃ W, W = (w.alloc (.cells (fc a) 28)).alloc (.cells (fc b) 28) := ⟨_, rfl⟩
  have hz : w.heap.size + 1 < W.heap.size := by rw [hW]; simp
  have hb0 : Below w.heap.size w W := hW ▸ below2 w _ _
  have hr0 : row W (w.heap.size + 1) = fc b := by rw [hW]; exact row_new _ _ _ _ (by simp)
  rw [← hW]
  clear hW
  refine (keys_any a _).mono ?_
  rintro e w1 ⟨v, rfl, hb1, hv⟩
  have hz1 : w.heap.size + 1 < w1.heap.size := by have := hb1.size; omega
  have hr1 : row w1 (w.heap.size + 1) = fc b := by rw [(bcell hb1).2.2.1 _ hz]; exact hr0
  have hbw := nx hb0 hb1
  clear hr0 hz hb0 hb1
  rcases hv with ⟨h0, rfl⟩ | ⟨h0, p, cap, rfl, hp, hc⟩
  · have H := Lib.hid (meet_none a b h0)
    clear h0
    go_wp2
    go_loopw [10] (fun i wr => i = .int .i64 0 ∧ Below w.heap.size w wr) (fun i _ => 0)
    case atStart => exact ⟨rfl, hbw⟩
    case round =>
      obtain ⟨rfl, hb⟩ := hrel
      go_wp2
      go_ret
      exact ⟨ret_bool H.out.symm, hb⟩
  · have HM := Lib.hid (meet_any a b h0)
    have HC := Lib.hid hc
    have hn := nk_bd a
    obtain ⟨n, hN⟩ : ∃ n, n = nk a := ⟨_, rfl⟩
    rw [← hN] at hn HM HC ⊢
    have HN := Lib.hid hN
    obtain ⟨hn1, hn2⟩ := hn
    clear hc hN h0
    go_wp2
    go_loopw [10] (fun i wr => ∃ k : Nat, k ≤ n ∧ i = .int .i64 k ∧ Below w1.heap.size w1 wr ∧ anyF a b k = false) (fun i _ => n - (intOf i).toNat)
    case atStart => exact ⟨0, Nat.zero_le _, rfl, Below.refl _ _, rfl⟩
    case round =>
      obtain ⟨k, hk, rfl, hb1, hno⟩ := hrel
      have HNo := Lib.hid hno
      clear hno
      by_cases hlt : k < n
      · have hlt2 : (k : Int) < n := by omega
        have hc := HC.out k hlt
        obtain ⟨hc0, hc1⟩ := hc
        have hB := bcell hb1
        obtain ⟨c1, f1, r1, p1⟩ := hB
        go_wp2
        obtain ⟨V, hV⟩ : ∃ V, V = wr.alloc (.cells #[.bool (kl k), .int .i64 (ki a k)] 70) := ⟨_, rfl⟩
        have hzw : wr.heap.size < V.heap.size := by rw [hV]; simp
        have hbV : Below wr.heap.size wr V := hV ▸ below1 wr _
        have hzr : w.heap.size + 1 < wr.heap.size := by have := hb1.size; omega
        have hF : ∀ u, Below V.heap.size V u → row u (w.heap.size + 1) = fc b ∧ u.cell? ⟨wr.heap.size, 0, none⟩ = some (.bool (kl k)) ∧ u.cell? ⟨wr.heap.size, 1, none⟩ = some (.int .i64 (ki a k)) := fun u hu => by
          refine ⟨?_, ?_, ?_⟩
          · rw [(bcell hu).2.2.1 _ (by omega), (bcell hbV).2.2.1 _ hzr, r1 _ hz1]; exact hr1
          · rw [hu.cell (p := ⟨wr.heap.size, 0, none⟩) hzw, hV]; simp [go_sem]
          · rw [hu.cell (p := ⟨wr.heap.size, 1, none⟩) hzw, hV]; simp [go_sem]
        rw [← hV]
        clear hV
        refine Rf.region [0, 2, 1, 3] (by kernel_rfl) (by kernel_rfl) (by kernel_rfl) (fun _ _ d _ _ h => by cases d <;> exact h) ?_
        repeat (first | (refine Rf.Steps.skip (by rfl) (by kernel_rfl) (by rfl) ?_; simp only [Act.put, List.setIfInBounds_toArray, List.set_cons_zero, List.set_cons_succ]) | (refine Rf.Steps.pure (v := ?_) (by rfl) (by kernel_rfl) (by rfl) ?_ ?_; rotate_left; (intro w_ hS_; have hk_ := hF w_ hS_; go_simp <;> with_reducible rfl); simp only [Act.put, List.setIfInBounds_toArray, List.set_cons_zero, List.set_cons_succ]))
        refine Rf.Steps.forced (by kernel_rfl) ?_
        refine Rf.One.call (KV b) (fun v => KV.stays b v) (f := ?_) (args := ?_) (by rfl) (by rfl) ?_ ?_ ?_
        rotate_left 2
        · intro w_ hS_; have hk_ := hF w_ hS_; go_simp <;> first | with_reducible rfl | (constructor <;> with_reducible rfl)
        · intro w_ hS_; have hk_ := hF w_ hS_; exact keys_any b _
        intro x u_ hx
        simp only [Act.put, List.setIfInBounds_toArray, List.set_cons_zero, List.set_cons_succ]
        refine Rf.Steps.forced (by kernel_rfl) ?_
        refine Rf.One.call (fun v _ => v = .bool (hasB b (kl k) (ki a k))) (fun v w w' h _ => h) (f := ?_) (args := ?_) (by rfl) (by rfl) ?_ ?_ ?_
        rotate_left 2
        · intro w_ hS_; have hk_ := (fun u (hu : _ ∧ KV b x u) => hu.2) w_ hS_; go_simp <;> first | with_reducible rfl | (constructor <;> with_reducible rfl)
        · intro w_ hS_; have hk_ := (fun u (hu : _ ∧ KV b x u) => hu.2) w_ hS_; exact (contains_kv b (kl k) (ki a k) x _ hk_).mono fun e w' ⟨he, hb⟩ => ⟨_, he, hb, rfl⟩
        intro y u_ hy
        simp only [Act.put, List.setIfInBounds_toArray, List.set_cons_zero, List.set_cons_succ]
        subst hy
        refine Rf.Steps.nil (by kernel_rfl) ?_
        rintro w2 ⟨⟨hb2, _⟩, _⟩
        have hb3 : Below w1.heap.size w1 w2 := nx hb1 (nx hbV hb2)
        clear hF hx hbV hb2
        cases hq : hasB b (kl k) (ki a k)
        · have HS : Hid (anyF a b (k + 1) = false) := Lib.hid (by rw [anyF_succ, HNo.out, hq]; rfl)
          clear hq
          go_wp2
          go_roundw
          case rel => exact ⟨k + 1, by omega, by go_num, hb3, HS.out⟩
          case measure => simp [intOf]; omega
        · have HS : Hid (meetB a b = true) := Lib.hid (by rw [← HM.out]; exact anyF_mono (show k + 1 ≤ n by omega) (by rw [anyF_succ, hq, Bool.or_true]))
          clear hq
          go_wp2
          go_ret
          exact ⟨ret_bool HS.out.symm, nx hbw hb3⟩
      · obtain rfl : k = n := by omega
        have HS : Hid (meetB a b = false) := Lib.hid (by rw [← HM.out]; exact HNo.out)
        go_wp2
        go_ret
        exact ⟨ret_bool HS.out.symm, nx hbw hb1⟩
set_option maxHeartbeats 1600000 in
theorem rMeets_any (a b : Nat → Int) (w : World) :
    Calls Try.prog 60 #[.agg (fc a), .agg (fc b)] w fun e w' => e = .returned (.bool (meetB a b)) ∧ Below w.heap.size w w' := by
  go_enter Try.func60, Try.ntmps60
  go_wp2_with fail
  obtain ⟨W, hW⟩ : ∃ W, W = (w.alloc (.cells (fc a) 28)).alloc (.cells (fc b) 28) := ⟨_, rfl⟩
  have hz : w.heap.size + 1 < W.heap.size := by rw [hW]; simp
  have hb0 : Below w.heap.size w W := hW ▸ below2 w _ _
  have hr0 : row W (w.heap.size + 1) = fc b := by rw [hW]; exact row_new _ _ _ _ (by simp)
  rw [← hW]
  clear hW
  refine (rKeys_any a _).mono ?_
  rintro e w1 ⟨v, rfl, hb1, hv⟩
  have hz1 : w.heap.size + 1 < w1.heap.size := by have := hb1.size; omega
  have hr1 : row w1 (w.heap.size + 1) = fc b := by rw [(bcell hb1).2.2.1 _ hz]; exact hr0
  have hbw := nx hb0 hb1
  clear hr0 hz hb0 hb1
  rcases hv with ⟨h0, rfl⟩ | ⟨h0, p, cap, rfl, hp, hc⟩
  · have H := Lib.hid (meet_none a b h0)
    clear h0
    go_wp2
    go_loopw [12] (fun i wr => i = .int .i64 0 ∧ Below w.heap.size w wr) (fun i _ => 0)
    case atStart => exact ⟨rfl, hbw⟩
    case round =>
      obtain ⟨rfl, hb⟩ := hrel
      go_wp2
      go_ret
      exact ⟨ret_bool H.out.symm, hb⟩
  · have HM := Lib.hid (meet_any a b h0)
    have HC := Lib.hid hc
    have hn := nk_bd a
    obtain ⟨n, hN⟩ : ∃ n, n = nk a := ⟨_, rfl⟩
    rw [← hN] at hn HM HC ⊢
    have HN := Lib.hid hN
    obtain ⟨hn1, hn2⟩ := hn
    clear hc hN h0
    go_wp2
    go_loopw [12] (fun i wr => ∃ k : Nat, k ≤ n ∧ i = .int .i64 k ∧ Below w1.heap.size w1 wr ∧ anyF a b k = false) (fun i _ => n - (intOf i).toNat)
    case atStart => exact ⟨0, Nat.zero_le _, rfl, Below.refl _ _, rfl⟩
    case round =>
      obtain ⟨k, hk, rfl, hb1, hno⟩ := hrel
      have HNo := Lib.hid hno
      clear hno
      by_cases hlt : k < n
      · have hlt2 : (k : Int) < n := by omega
        have hc := HC.out k hlt
        obtain ⟨hc0, hc1⟩ := hc
        have hB := bcell hb1
        obtain ⟨c1, f1, r1, p1⟩ := hB
        have hzr : w.heap.size + 1 < wr.heap.size := by have := hb1.size; omega
        go_wp2_with fail
        obtain ⟨V, hV⟩ : ∃ V, V = wr.alloc (.cells #[.bool (kl k), .int .i64 (ki a k)] 70) := ⟨_, rfl⟩
        have hzw : wr.heap.size < V.heap.size := by rw [hV]; simp
        have hbV : Below wr.heap.size wr V := hV ▸ below1 wr _
        have kV0 : V.cell? ⟨wr.heap.size, 0, none⟩ = some (.bool (kl k)) := by rw [hV]; simp [go_sem]
        have kV1 : V.cell? ⟨wr.heap.size, 1, none⟩ = some (.int .i64 (ki a k)) := by rw [hV]; simp [go_sem]
        rw [← hV]
        clear hV
        refine (rKeys_any b _).mono ?_
        rintro e w2 ⟨y, rfl, hb2, hy⟩
        have hzw2 : wr.heap.size < w2.heap.size := by have := hb2.size; omega
        have kW0 : w2.cell? ⟨wr.heap.size, 0, none⟩ = some (.bool (kl k)) := by rw [hb2.cell (p := ⟨wr.heap.size, 0, none⟩) hzw]; exact kV0
        have kW1 : w2.cell? ⟨wr.heap.size, 1, none⟩ = some (.int .i64 (ki a k)) := by rw [hb2.cell (p := ⟨wr.heap.size, 1, none⟩) hzw]; exact kV1
        have hbw2 : Below w1.heap.size w1 w2 := nx hb1 (nx hbV hb2)
        clear kV0 kV1 c1 f1 r1 p1 hc0 hc1 hbV hb2 hzw
        rcases hy with ⟨g0, rfl⟩ | ⟨g0, q, cap2, rfl, hq, hd⟩
        · have HS : Hid (anyF a b (k + 1) = false) := Lib.hid (by rw [anyF_succ, HNo.out]; simp [hasB, g0])
          clear g0
          go_wp2
          go_loopw [19] (fun i wr => i = .int .i64 0 ∧ Below w1.heap.size w1 wr) (fun i _ => 0)
          case atStart => exact ⟨rfl, hbw2⟩
          case round =>
            obtain ⟨rfl, hb⟩ := hrel
            go_wp2
            go_roundw
            case rel => exact ⟨k + 1, by omega, by go_num, hb, HS.out⟩
            case measure => simp [intOf]; omega
        · have HB : Hid (hasB b (kl k) (ki a k) = hasF b (nk b) (kl k) (ki a k)) := Lib.hid (by simp [hasB, g0])
          have HD := Lib.hid hd
          have hm := nk_bd b
          obtain ⟨m, hM⟩ : ∃ m, m = nk b := ⟨_, rfl⟩
          rw [← hM] at hm HB HD ⊢
          have HM2 := Lib.hid hM
          obtain ⟨hm1, hm2⟩ := hm
          clear hd hM g0
          go_wp2
          obtain ⟨wo, rfl⟩ : ∃ wo : World, wo = wr := ⟨_, rfl⟩
          go_loopw [19] (fun i wr => ∃ j : Nat, j ≤ m ∧ i = .int .i64 j ∧ Below w2.heap.size w2 wr ∧ hasF b j (kl k) (ki a k) = false) (fun i _ => m - (intOf i).toNat)
          case atStart => exact ⟨0, Nat.zero_le _, rfl, Below.refl _ _, rfl⟩
          case round =>
            obtain ⟨j, hj, rfl, hb3, hno⟩ := hrel
            have HNj := Lib.hid hno
            clear hno
            have hB := bcell hb3
            obtain ⟨c3, f3, r3, p3⟩ := hB
            by_cases hjt : j < m
            · have hjt2 : (j : Int) < m := by omega
              have hc := HD.out j hjt
              obtain ⟨hc0, hc1⟩ := hc
              have hzw3 : wo.heap.size < wr.heap.size := by have := hb3.size; omega
              cases hq2 : keyB (kl k) (ki a k) (kl j) (ki b j)
              · have HS : Hid (hasF b (j + 1) (kl k) (ki a k) = false) := Lib.hid (by rw [hasF_succ, HNj.out, hq2]; rfl)
                go_wp2
                go_roundw
                case rel => exact ⟨j + 1, by omega, by go_num, nx hb3 (below1 _ _), HS.out⟩
                case measure => simp [intOf]; omega
              · have HS : Hid (meetB a b = true) := Lib.hid (by
                  have e1 : hasF b (j + 1) (kl k) (ki a k) = true := by rw [hasF_succ, hq2, Bool.or_true]
                  have e2 : hasB b (kl k) (ki a k) = true := by rw [HB.out]; exact hasF_mono (show j + 1 ≤ m by omega) e1
                  rw [← HM.out]; exact anyF_mono (show k + 1 ≤ n by omega) (by rw [anyF_succ, e2, Bool.or_true]))
                go_wp2
                go_ret
                exact ⟨ret_bool HS.out.symm, nx hbw (nx hbw2 (nx hb3 (below1 _ _)))⟩
            · obtain rfl : j = m := by omega
              have HS : Hid (anyF a b (k + 1) = false) := Lib.hid (by rw [anyF_succ, HNo.out, HB.out, HNj.out]; rfl)
              go_wp2
              go_roundw
              case rel => exact ⟨k + 1, by omega, by go_num, nx hbw2 hb3, HS.out⟩
              case measure => simp [intOf]; omega
      · obtain rfl : k = n := by omega
        have HS : Hid (meetB a b = false) := Lib.hid (by rw [← HM.out]; exact HNo.out)
        go_wp2
        go_ret
        exact ⟨ret_bool HS.out.symm, nx hbw hb1⟩
end Go.Proofs.Ytmaecknjamnnpaa.Cm
