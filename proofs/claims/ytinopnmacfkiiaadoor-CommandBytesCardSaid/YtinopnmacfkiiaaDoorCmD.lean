/- Keys of both programs in one wording; slices.Index and slices.Contains at keys. -/
import Derived.Test.YtinopnmacfkiiaaDoorCmC
import Derived.StillTailTactics
namespace Go.Proofs.YtinopnmacfkiiaaDoor.Cm
open Go.RowKit
set_option linter.unusedVariables false
open Go.Proofs.YtinopnmacfkiiaaDoor.Rw
open Go.Proofs.YtinopnmacfkiiaaDoor.Fx (ret_v ret_bool ret_int)
set_option maxHeartbeats 800000 in
theorem rKeys2 (c : Nat → Int) (h : (c 2 == 0) = false) (k : Hid (laneB (c 2) = true)) (w : World) :
    Calls Tryd.prog 8 #[.agg (fc c)] w (Post (K2 c) w) := by
  go_enter Tryd.func8, Tryd.ntmps8
  go_wp2_with fail
  refine (lane_is k _).mono ?_
  rintro e w' ⟨rfl, rfl⟩
  go_wp2
  go_ret
  exact ⟨_, rfl, (below4 _ _ _ _ _).drew, _, _, rfl, by simp, by simp [go_sem, Array.getElem?_append], by simp [go_sem, Array.getElem?_append], by simp [go_sem, Array.getElem?_append], by simp [go_sem, Array.getElem?_append]⟩
/-- How many keys a command with a kind has; which ones. -/
def nk (c : Nat → Int) : Nat := if laneB (c 2) then 2 else 1
def kl (j : Nat) : Bool := j == 1
def ki (c : Nat → Int) (j : Nat) : Int := if j = 1 then c 3 else c 0
/-- A slice of a command's keys. -/
def KN (c : Nat → Int) (v : Value) (w : World) : Prop := ∃ b cap, v = .slice (some ⟨b, 0, none⟩) (nk c) cap ∧ b < w.heap.size ∧ ∀ j, j < nk c → w.cell? ⟨b, j * 2, none⟩ = some (.bool (kl j)) ∧ w.cell? ⟨b, j * 2 + 1, none⟩ = some (.int .i64 (ki c j))
def KV (c : Nat → Int) (v : Value) (w : World) : Prop := (c 2 = 0 ∧ v = .slice none 0 0) ∨ (c 2 ≠ 0 ∧ KN c v w)
theorem KV.stays (c : Nat → Int) (v : Value) (w w' : World) (h : KV c v w) (k : Below w.heap.size w w') : KV c v w' := by
  rcases h with h | ⟨h, b, cap, e, hb, hc⟩
  · exact .inl h
  · exact .inr ⟨h, b, cap, e, Nat.lt_of_lt_of_le hb k.size, fun j hj => ⟨by rw [k.cell (p := ⟨b, j * 2, none⟩) hb, (hc j hj).1], by rw [k.cell (p := ⟨b, j * 2 + 1, none⟩) hb, (hc j hj).2]⟩⟩
theorem KN.of1 {c : Nat → Int} {v : Value} {w : World} (hl : laneB (c 2) = false) (h : K1 c v w) : KN c v w := by
  obtain ⟨b, cap, e, hb, h0, h1⟩ := h
  have hn : nk c = 1 := by unfold nk; rw [hl]; rfl
  refine ⟨b, cap, by rw [hn, e], hb, fun j hj => ?_⟩
  obtain rfl : j = 0 := by omega
  exact ⟨h0, h1⟩
theorem KN.of2 {c : Nat → Int} {v : Value} {w : World} (hl : laneB (c 2) = true) (h : K2 c v w) : KN c v w := by
  obtain ⟨b, cap, e, hb, h0, h1, h2, h3⟩ := h
  have hn : nk c = 2 := by unfold nk; rw [hl]; rfl
  refine ⟨b, cap, by rw [hn, e], hb, fun j hj => ?_⟩
  rcases (show j = 0 ∨ j = 1 by omega) with rfl | rfl
  · exact ⟨h0, h1⟩
  · exact ⟨h2, h3⟩
theorem keys_any (c : Nat → Int) (w : World) : Calls Tryd.prog 7 #[.agg (fc c)] w (Post (KV c) w) := by
  by_cases h : c 2 = 0
  · exact (keys0 c (by simp [h]) w).mono fun e w' ⟨he, hb⟩ => ⟨_, he, hb, .inl ⟨h, rfl⟩⟩
  · cases hl : laneB (c 2)
    · exact (keys1 c (by simp [h]) (Lib.hid hl) w).mono fun e w' ⟨v, he, hb, k⟩ => ⟨v, he, hb, .inr ⟨h, KN.of1 hl k⟩⟩
    · exact (keys2 c (by simp [h]) (Lib.hid hl) w).mono fun e w' ⟨v, he, hb, k⟩ => ⟨v, he, hb, .inr ⟨h, KN.of2 hl k⟩⟩
theorem rKeys_any (c : Nat → Int) (w : World) : Calls Tryd.prog 8 #[.agg (fc c)] w (Post (KV c) w) := by
  by_cases h : c 2 = 0
  · exact (rKeys0 c (by simp [h]) w).mono fun e w' ⟨he, hb⟩ => ⟨_, he, hb, .inl ⟨h, rfl⟩⟩
  · cases hl : laneB (c 2)
    · exact (rKeys1 c (by simp [h]) (Lib.hid hl) w).mono fun e w' ⟨v, he, hb, k⟩ => ⟨v, he, hb, .inr ⟨h, KN.of1 hl k⟩⟩
    · exact (rKeys2 c (by simp [h]) (Lib.hid hl) w).mono fun e w' ⟨v, he, hb, k⟩ => ⟨v, he, hb, .inr ⟨h, KN.of2 hl k⟩⟩
/-- Two keys compared. -/
def keyB (a : Bool) (x : Int) (b : Bool) (y : Int) : Bool := (a == b) && (x == y)
theorem keyB_iff {a b : Bool} {x y : Int} : keyB a x b y = true ↔ a = b ∧ x = y := by simp [keyB]
theorem fieldsK : Tryd.prog.underlying 27 = some (.struct (Tryd.prog.fieldsOf 27)) := by kernel_rfl
theorem eqK (a : Bool) (x : Int) (b : Bool) (y : Int) (w : World) : (Op.equalIn 10000 27 (.agg #[.bool a, .int .i64 x]) (.agg #[.bool b, .int .i64 y])).run Tryd.prog w = .ok (keyB a x b y) w := by
  rw [run_equalIn_agg w 9999 _ _ _ fieldsK (by kernel_rfl)]
  simp only [Program.fieldsOf, Tryd.underlying27]
  simp [Op.eqFields, go_sem, keyB]
  by_cases h1 : a = b <;> by_cases h2 : x = y <;> simp [h1, h2]
theorem eqlK (a : Bool) (x : Int) (b : Bool) (y : Int) (w : World) : (binOp .eql 27 (.agg #[.bool a, .int .i64 x]) (.agg #[.bool b, .int .i64 y])).run Tryd.prog w = .ok (.bool (keyB a x b y)) w := by
  rw [run_eql_struct, eqK]; rfl
theorem neqK (a : Bool) (x : Int) (b : Bool) (y : Int) (w : World) : (binOp .neq 27 (.agg #[.bool a, .int .i64 x]) (.agg #[.bool b, .int .i64 y])).run Tryd.prog w = .ok (.bool (!keyB a x b y)) w := by
  rw [run_neq_struct, eqK]; rfl
theorem guardK (op : BinOp) (x y : Operand) (a : Bool) (p : Int) (b : Bool) (q : Int) (w : World) : (eqGuard op 27 x y (.agg #[.bool a, .int .i64 p]) (.agg #[.bool b, .int .i64 q])).run Tryd.prog w = .ok () w :=
  run_eqGuard_agg w op _ x y _ _ (by kernel_rfl)
attribute [go_sem ↓] eqlK neqK guardK
/-- Is a key among the first n ones of a command? -/
def hasF (c : Nat → Int) (n : Nat) (l : Bool) (x : Int) : Bool := (List.range n).any fun j => keyB l x (kl j) (ki c j)
theorem hasF_zero (c : Nat → Int) (l : Bool) (x : Int) : hasF c 0 l x = false := rfl
theorem hasF_succ (c : Nat → Int) (n : Nat) (l : Bool) (x : Int) : hasF c (n + 1) l x = (hasF c n l x || keyB l x (kl n) (ki c n)) := by
  unfold hasF; rw [List.range_succ, List.any_append]; simp
def hasB (c : Nat → Int) (l : Bool) (x : Int) : Bool := (c 2 != 0) && hasF c (nk c) l x
theorem nk_bd (c : Nat → Int) : 1 ≤ nk c ∧ nk c ≤ 2 := by unfold nk; split <;> omega
end Go.Proofs.YtinopnmacfkiiaaDoor.Cm
