/- ofNumbers, one; Keys of package command. -/
import Derived.Test.YtngnkjbcnmcngaaDoorCmA
import Derived.Laws.AppendOwn
namespace Go.Proofs.YtngnkjbcnmcngaaDoor.Cm
open Go.RowKit
set_option linter.unusedVariables false
open Go.Proofs.YtngnkjbcnmcngaaDoor.Rw
open Go.Proofs.YtngnkjbcnmcngaaDoor.Fx (ret_v ret_bool ret_int)
theorem of_v9 (l : Nat → Int) : fc (v9 (l 1) (l 5) (l 0) (l 2) (l 3) (l 8) (l 4) (l 6) (l 7)) = fc (ofF l) := fc_ext rfl rfl rfl rfl rfl rfl rfl rfl rfl
set_option maxHeartbeats 800000 in
theorem ofNumbers_any (l : Nat → Int) (w : World) :
    Calls Tryd.prog 50 #[.agg (fc l)] w fun e w' => e = .returned (.agg (fc (ofF l))) ∧ Below w.heap.size w w' := by
  have H := Lib.hid (of_v9 l)
  go_enter Tryd.func50, Tryd.ntmps50
  go_wp2
  rw [H.out]
  exact bodyPost_ret (v := .agg (fc (ofF l))) (ret_C Tryd.results50 _ _ _ (by simp [go_sem])) rfl ⟨rfl, below2 _ _ _⟩
def oneC : Nat → Int := v9 3 9 3 1 0 0 1 300 7
/-- A slice of one key: the account's. -/
def K1 (c : Nat → Int) (v : Value) (w : World) : Prop := ∃ b cap, v = .slice (some ⟨b, 0, none⟩) 1 cap ∧ b < w.heap.size ∧ w.cell? ⟨b, 0, none⟩ = some (.bool false) ∧ w.cell? ⟨b, 1, none⟩ = some (.int .i64 (c 0))
/-- A slice of two keys: the account's, the lane's. -/
def K2 (c : Nat → Int) (v : Value) (w : World) : Prop := ∃ b cap, v = .slice (some ⟨b, 0, none⟩) 2 cap ∧ b < w.heap.size ∧ w.cell? ⟨b, 0, none⟩ = some (.bool false) ∧ w.cell? ⟨b, 1, none⟩ = some (.int .i64 (c 0)) ∧ w.cell? ⟨b, 2, none⟩ = some (.bool true) ∧ w.cell? ⟨b, 3, none⟩ = some (.int .i64 (c 3))
theorem K1.stays (c : Nat → Int) (v : Value) (w w' : World) (h : K1 c v w) (k : Below w.heap.size w w') : K1 c v w' := by
  obtain ⟨b, cap, e, hb, h0, h1⟩ := h
  exact ⟨b, cap, e, Nat.lt_of_lt_of_le hb k.size, by rw [k.cell (p := ⟨b, 0, none⟩) hb, h0], by rw [k.cell (p := ⟨b, 1, none⟩) hb, h1]⟩
theorem K2.stays (c : Nat → Int) (v : Value) (w w' : World) (h : K2 c v w) (k : Below w.heap.size w w') : K2 c v w' := by
  obtain ⟨b, cap, e, hb, h0, h1, h2, h3⟩ := h
  exact ⟨b, cap, e, Nat.lt_of_lt_of_le hb k.size, by rw [k.cell (p := ⟨b, 0, none⟩) hb, h0], by rw [k.cell (p := ⟨b, 1, none⟩) hb, h1], by rw [k.cell (p := ⟨b, 2, none⟩) hb, h2], by rw [k.cell (p := ⟨b, 3, none⟩) hb, h3]⟩
def Post (F : Value → World → Prop) (w : World) (e : Ending) (w' : World) : Prop := ∃ v, e = .returned v ∧ Below w.heap.size w w' ∧ F v w'
end Go.Proofs.YtngnkjbcnmcngaaDoor.Cm
