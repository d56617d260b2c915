/- Vectors compared as a whole; what a call leaves of the blocks below. -/
import Derived.Test.YtoncmbglmebkiaaVeRow
namespace Go.Proofs.Ytoncmbglmebkiaa.Ve
open Go.RowKit
set_option linter.unusedVariables false
open Go.Proofs.Ytoncmbglmebkiaa.Fx (nx nd)
attribute [go_sem ↓] exec_load exec_store exec_alloc exec_build
attribute [go_sem] rowOf_at plainAt_at putRow_at row_new row_past row_drew plain_new plain_past plain_drew setRow_new setRow_past setRow_drew fc_size fc_at fc_get fc_set oneAll_fc
@[go_sem] theorem lt2 (n : Nat) : n < n + 1 + 1 := by omega
@[go_sem] theorem lt3 (n : Nat) : n < n + 1 + 1 + 1 := by omega
@[go_sem] theorem lt4 (n : Nat) : n < n + 1 + 1 + 1 + 1 := by omega
theorem part_fc (f : Nat → Int) (k : Nat) (h : k < 7) (w : World) : (part 3 (fc f) k).run Try.prog w = .ok (.int .i64 (f k)) w := by
  simp [part, Try.isAgg3, fc_at f k h]
theorem eqInt (a b : Int) (w : World) : (Op.equalIn 9999 3 (.int .i64 a) (.int .i64 b)).run Try.prog w = .ok (a == b) w := by
  rw [show (9999 : Nat) = 9998 + 1 from rfl, Op.equalIn]
  simp [run_underlying Try.underlying3]
theorem eqAll (f g : Nat → Int) (w : World) : ∀ (n s : Nat), s + n ≤ 7 →
    Sem.run Try.prog (forIn (List.range' s n) ((none : Option Bool), ()) fun i _ => (do
      if !(← Op.equalIn 9999 3 (← part 3 (fc f) (i * 1)) (← part 3 (fc g) (i * 1))) then pure (ForInStep.done (some false, ())) else pure (ForInStep.yield (none, ())) : Sem (ForInStep (Option Bool × Unit)))) w =
    .ok (if (List.range' s n).all (fun i => decide (f i = g i)) then (none, ()) else (some false, ())) w
  | 0, s, _ => by simp
  | n + 1, s, h => by
    rw [List.range'_succ, List.forIn_cons]
    have h1 := part_fc f (s * 1) (by omega) w
    have h2 := part_fc g (s * 1) (by omega) w
    have h3 := eqInt (f (s * 1)) (g (s * 1)) w
    simp only [Sem.run_bind, h1, h2, h3, Result.andThen]
    rw [Nat.mul_one]
    by_cases e : f s = g s
    · have := eqAll f g w n (s + 1) (by omega)
      rw [List.all_cons, decide_eq_true e, Bool.true_and]
      simpa [e] using this
    · rw [List.all_cons, decide_eq_false e, Bool.false_and]
      simp [e]
@[go_sem] theorem eqV_run (f g : Nat → Int) (w : World) : (Op.equalIn 10000 31 (.agg (fc f)) (.agg (fc g))).run Try.prog w = .ok (eqV f g) w := by
  rw [show (10000 : Nat) = 9999 + 1 from rfl, Op.equalIn]
  simp only [Sem.run_bind, run_underlying Try.underlying31, Result.andThen_ok, Try.sizeOf3]
  have h := eqAll f g w 7 0 (by omega)
  simp only [Std.Legacy.Range.forIn_eq_forIn_range', Std.Legacy.Range.size, Nat.sub_zero, Nat.add_sub_cancel, Nat.div_one]
  rw [h]
  by_cases e : (List.range' 0 7).all (fun i => decide (f i = g i)) = true
  · rw [if_pos e]
    have : eqV f g = true := e
    rw [this]; rfl
  · rw [if_neg e]
    have : eqV f g = false := Bool.eq_false_iff.2 e
    rw [this]; rfl
@[go_sem] theorem eqlV (f g : Nat → Int) (w : World) : (binOp .eql 31 (.agg (fc f)) (.agg (fc g))).run Try.prog w = .ok (.bool (eqV f g)) w := by
  rw [run_eql_struct, eqV_run]; rfl
@[go_sem] theorem neqV (f g : Nat → Int) (w : World) : (binOp .neq 31 (.agg (fc f)) (.agg (fc g))).run Try.prog w = .ok (.bool (!eqV f g)) w := by
  rw [run_neq_struct, eqV_run]; rfl
@[go_sem] theorem guardV (op : BinOp) (x y : Operand) (f g : Nat → Int) (w : World) : (eqGuard op 31 x y (.agg (fc f)) (.agg (fc g))).run Try.prog w = .ok () w :=
  run_eqGuard_agg w op _ x y _ _ (by kernel_rfl)
@[go_sem] theorem index_fc (f : Nat → Int) (i : Int) (h0 : 0 ≤ i) (h7 : i < 7) (w : World) : (Instr.index 31 (.agg (fc f)) (.int .i64 i)).run Try.prog w = .ok (.int .i64 (f i.toNat)) w := by
  have h := part_fc f i.toNat (by omega) w
  simp only [Instr.index, asIntOf, Sem.run_bind, Sem.run_pure, Result.andThen, run_underlying Try.underlying31]
  rw [if_pos ⟨h0, h7⟩]
  simp only [Sem.run_bind, Result.andThen, Try.sizeOf3, Nat.mul_one, h]
@[go_sem] theorem indexAt_fc (b : Nat) (i : Int) (h0 : 0 ≤ i) (h7 : i < 7) (w : World) : (Instr.indexAt 31 (.pointer (some ⟨b, 0, none⟩)) (.int .i64 i)).run Try.prog w = .ok (.pointer (some ⟨b, i.toNat, none⟩)) w := by
  have h : (0 : Int) ≤ i ∧ i < (7 : Nat) := ⟨h0, h7⟩
  have ha : (⟨b, 0, none⟩ : Addr).add i.toNat = ⟨b, i.toNat, none⟩ := by unfold Addr.add; split <;> simp_all
  simp only [Instr.indexAt, asIntOf, Instr.sureAddr, run_underlying Try.underlying31, Sem.run_bind, Sem.run_pure, Result.andThen]
  rw [if_pos h]
  simp only [Sem.run_bind, Result.andThen, Try.sizeOf3, Nat.mul_one, Sem.run_pure, ha]
@[go_sem] theorem cast_nonneg (k : Nat) : (0 : Int) ≤ (k : Int) := Int.natCast_nonneg k
theorem bcell {W w1 : World} (hb : Below W.heap.size W w1) : (∀ b o, b < W.heap.size → w1.cell? ⟨b, o, none⟩ = W.cell? ⟨b, o, none⟩) ∧ (∀ b o, b < W.heap.size → w1.frozen? ⟨b, o, none⟩ = W.frozen? ⟨b, o, none⟩) ∧
    (∀ b, b < W.heap.size → row w1 b = row W b) ∧ (∀ b, b < W.heap.size → plain w1 b = plain W b) :=
  ⟨fun b o h => hb.cell (p := ⟨b, o, none⟩) h, fun b o h => hb.frozen (p := ⟨b, o, none⟩) h, fun b h => by unfold row; rw [hb.block b h], fun b h => by unfold plain; rw [hb.block b h]⟩
theorem _root_.Go.Below.setRow {B : Nat} {a w : World} (h : Below B a w) {p : Nat} (hp : B ≤ p) (c : Array Value) : Below B a (w.setRow p c) :=
  h.trans ⟨rfl, rfl, rfl, by simp, fun k hk => setRow_other w p k c (by omega)⟩
theorem below1 (w : World) (o : Obj) : Below w.heap.size w (w.alloc o) := (Below.refl _ _).alloc (Nat.le_refl _) _
theorem below2 (w : World) (o p : Obj) : Below w.heap.size w ((w.alloc o).alloc p) := nx (below1 _ _) (below1 _ _)
theorem below3 (w : World) (o p q : Obj) : Below w.heap.size w (((w.alloc o).alloc p).alloc q) := nx (below2 _ _ _) (below1 _ _)
end Go.Proofs.Ytoncmbglmebkiaa.Ve
