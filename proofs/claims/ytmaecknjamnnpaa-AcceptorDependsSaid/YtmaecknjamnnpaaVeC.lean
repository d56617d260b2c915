/- Vectors of seven numbers, as functions of the replica. -/
import Derived.Lib.Hide
import Derived.Test.YtmaecknjamnnpaaRows
import Derived.WalkKit
import Derived.ProofKit
import Derived.Below
import Derived.BigQuiet
import Derived.WalkLawsBesides
import Derived.WalkSpells
import Derived.IntWalk
import Derived.Laws.Rows
import Derived.Laws.StructEq
import Derived.Deep.WholeRow
import Derived.Test.YtmaecknjamnnpaaFxC
import Derived.Test.YtmaecknjamnnpaaRg
namespace Go.Proofs.Ytmaecknjamnnpaa.Ve
def zeroV : Nat → Int := fun _ => 0
def upd (f : Nat → Int) (k : Nat) (x : Int) : Nat → Int := fun i => if i = k then x else f i
def maxV (a b : Nat → Int) : Nat → Int := fun i => max (a i) (b i)
/-- The first k numbers are the greater ones. -/
def mixV (a b : Nat → Int) (k : Nat) : Nat → Int := fun i => if i < k then max (a i) (b i) else a i
def raiseV (v : Nat → Int) (r s : Int) : Nat → Int := if 0 ≤ r ∧ r < 7 then upd v r.toNat (max (v r.toNat) s) else v
def eqV (a b : Nat → Int) : Bool := (List.range 7).all fun i => decide (a i = b i)
def undB (a b : Nat → Int) : Bool := (List.range 7).all fun i => decide (a i ≤ b i)
def covB (v : Nat → Int) (r s : Int) : Bool := decide (0 ≤ r ∧ r < 7 ∧ 1 ≤ s ∧ s ≤ v r.toNat)
def isR (r : Int) : Bool := decide (0 ≤ r ∧ r < 7)
def near (x : Int) : Int := min (max x 0) 400
def cntTo (v : Nat → Int) : Nat → Int
  | 0 => 0
  | k + 1 => cntTo v k + near (v k)
def cntV (v : Nat → Int) : Int := cntTo v 7
/-- The vector of which the first k numbers are 400. -/
def fullTo (k : Nat) : Nat → Int := fun i => if i < k then 400 else 0
/-- One number at least, of the first k, is not one of a cluster of n. -/
def okAt (v : Nat → Int) (n : Int) (i : Nat) : Bool := decide (0 ≤ v i ∧ v i ≤ 400 ∧ (n ≤ i → v i = 0))
def rightB (v : Nat → Int) (n : Int) : Bool := decide (1 ≤ n ∧ n ≤ 7) && (List.range 7).all (okAt v n)
theorem rightB_iff {v : Nat → Int} {n : Int} : rightB v n = true ↔ (1 ≤ n ∧ n ≤ 7) ∧ ∀ i, i < 7 → okAt v n i = true := by simp [rightB]
theorem mix_zero (a b : Nat → Int) : mixV a b 0 = a := by funext i; simp [mixV]
theorem mix_at (a b : Nat → Int) (k : Nat) : mixV a b k k = a k := by simp [mixV]
theorem max_if (x y : Int) : (if x < y then y else x) = max x y := by split <;> omega
theorem min_if (x y : Int) : (if y < x then y else x) = min x y := by split <;> omega
theorem mix_succ (a b : Nat → Int) (k : Nat) : upd (mixV a b k) k (if a k < b k then b k else a k) = mixV a b (k + 1) := by
  rw [max_if]
  funext i
  unfold upd mixV
  by_cases h : i = k
  · subst h; simp
  · by_cases h2 : i < k
    · simp [h, h2, show i < k + 1 by omega]
    · simp [h, h2, show ¬ i < k + 1 by omega]
theorem mix_all (a b : Nat → Int) : ∀ i, i < 7 → mixV a b 7 i = maxV a b i := fun i h => by simp [mixV, maxV, h]
theorem full_zero : fullTo 0 = zeroV := by funext i; simp [fullTo, zeroV]
theorem full_succ (k : Nat) : upd (fullTo k) k 400 = fullTo (k + 1) := by
  funext i
  unfold upd fullTo
  by_cases h : i = k
  · subst h; simp
  · by_cases h2 : i < k
    · simp [h, h2, show i < k + 1 by omega]
    · simp [h, h2, show ¬ i < k + 1 by omega]
theorem eqV_refl (a : Nat → Int) : eqV a a = true := by simp [eqV]
theorem eqV_iff {a b : Nat → Int} : eqV a b = true ↔ ∀ i, i < 7 → a i = b i := by simp [eqV]
theorem undB_iff {a b : Nat → Int} : undB a b = true ↔ ∀ i, i < 7 → a i ≤ b i := by simp [undB]
theorem max_under (a b : Nat → Int) : eqV (maxV a b) b = undB a b := by
  rw [Bool.eq_iff_iff, eqV_iff, undB_iff]
  refine ⟨fun h i hi => ?_, fun h i hi => ?_⟩
  · have := h i hi; unfold maxV at this; omega
  · have := h i hi; unfold maxV; omega
theorem max_comm (a b : Nat → Int) : maxV a b = maxV b a := by funext i; unfold maxV; omega
theorem max_self (a : Nat → Int) : maxV a a = a := by funext i; unfold maxV; omega
theorem max_assoc (a b c : Nat → Int) : maxV (maxV a b) c = maxV a (maxV b c) := by funext i; unfold maxV; omega
theorem und_left (a b : Nat → Int) : undB a (maxV a b) = true := undB_iff.2 fun i _ => by unfold maxV; omega
theorem und_right (a b : Nat → Int) : undB b (maxV a b) = true := undB_iff.2 fun i _ => by unfold maxV; omega
theorem und_trans {a b c : Nat → Int} (h : undB a b = true) (k : undB b c = true) : undB a c = true :=
  undB_iff.2 fun i hi => Int.le_trans (undB_iff.1 h i hi) (undB_iff.1 k i hi)
theorem und_anti {a b : Nat → Int} (h : undB a b = true) (k : undB b a = true) : eqV a b = true :=
  eqV_iff.2 fun i hi => Int.le_antisymm (undB_iff.1 h i hi) (undB_iff.1 k i hi)
theorem covB_iff {v : Nat → Int} {r s : Int} : covB v r s = true ↔ (0 ≤ r ∧ r < 7 ∧ 1 ≤ s ∧ s ≤ v r.toNat) := by simp [covB]
theorem covB_no {v : Nat → Int} {r s : Int} (h : ¬ (0 ≤ r ∧ r < 7 ∧ 1 ≤ s ∧ s ≤ v r.toNat)) : covB v r s = false := by
  rw [Bool.eq_false_iff]; exact fun x => h (covB_iff.1 x)
theorem cov_max (a b : Nat → Int) (r s : Int) : covB (maxV a b) r s = (covB a r s || covB b r s) := by
  rw [Bool.eq_iff_iff, Bool.or_eq_true, covB_iff, covB_iff, covB_iff]
  unfold maxV
  omega
theorem raise_in {v : Nat → Int} {r s : Int} (h : 0 ≤ r ∧ r < 7) : raiseV v r s = upd v r.toNat (max (v r.toNat) s) := if_pos h
theorem raise_out {v : Nat → Int} {r s : Int} (h : ¬ (0 ≤ r ∧ r < 7)) : raiseV v r s = v := if_neg h
theorem raise_cov {v : Nat → Int} {r s : Int} (h : 0 ≤ r ∧ r < 7) (hs : 1 ≤ s) : eqV (raiseV v r s) v = covB v r s := by
  rw [Bool.eq_iff_iff, eqV_iff, covB_iff, raise_in h]
  refine ⟨fun x => ?_, fun x i hi => ?_⟩
  · have := x r.toNat (by omega)
    simp [upd] at this
    omega
  · unfold upd
    by_cases e : i = r.toNat
    · subst e; simp; omega
    · simp [e]
theorem und_raise (v : Nat → Int) (r s : Int) : undB v (raiseV v r s) = true := by
  rw [undB_iff]
  intro i hi
  by_cases h : 0 ≤ r ∧ r < 7
  · rw [raise_in h]; unfold upd
    by_cases e : i = r.toNat
    · subst e; simp; omega
    · simp [e]
  · rw [raise_out h]; exact Int.le_refl _
theorem cov_raised {v : Nat → Int} {r s : Int} (h : 0 ≤ r ∧ r < 7) {t : Int} (h1 : 1 ≤ t) (ht : t ≤ s) : covB (raiseV v r s) r t = true := by
  rw [covB_iff, raise_in h]
  refine ⟨h.1, h.2, h1, ?_⟩
  simp [upd]; omega
theorem cov_other {v : Nat → Int} {r s q t : Int} (h : ¬ (q = r ∧ 1 ≤ t ∧ t ≤ s ∧ 0 ≤ q ∧ q < 7)) : covB (raiseV v r s) q t = covB v q t := by
  rw [Bool.eq_iff_iff, covB_iff, covB_iff]
  by_cases hr : 0 ≤ r ∧ r < 7
  · rw [raise_in hr]; unfold upd
    by_cases e : q.toNat = r.toNat
    · rw [if_pos e, ← e]
      refine ⟨fun x => ?_, fun x => ?_⟩ <;> (have : q = r := by omega) <;> subst this <;> omega
    · rw [if_neg e]
  · rw [raise_out hr]
theorem near_le (x : Int) : 0 ≤ near x ∧ near x ≤ 400 := by unfold near; omega
theorem cnt_le (v : Nat → Int) : ∀ k : Nat, 0 ≤ cntTo v k ∧ cntTo v k ≤ 400 * k
  | 0 => by simp [cntTo]
  | k + 1 => by
    have := cnt_le v k
    have := near_le (v k)
    simp only [cntTo]
    omega
theorem right_under {v : Nat → Int} {n : Int} (h : 1 ≤ n ∧ n ≤ 7) : (undB zeroV v && undB v (fullTo n.toNat)) = rightB v n := by
  rw [Bool.eq_iff_iff, Bool.and_eq_true, undB_iff, undB_iff, rightB_iff]
  refine ⟨fun x => ⟨h, fun i hi => ?_⟩, fun x => ⟨fun i hi => ?_, fun i hi => ?_⟩⟩
  · have h1 := x.1 i hi
    have h2 := x.2 i hi
    unfold okAt
    rw [decide_eq_true_eq]
    simp only [zeroV, fullTo] at h1 h2
    split at h2 <;> omega
  · have := x.2 i hi
    unfold okAt at this
    rw [decide_eq_true_eq] at this
    exact this.1
  · have := x.2 i hi
    unfold okAt at this
    rw [decide_eq_true_eq] at this
    unfold fullTo
    split <;> omega
theorem right_no {v : Nat → Int} {n : Int} (h : ¬ (1 ≤ n ∧ n ≤ 7)) : rightB v n = false := by
  rw [Bool.eq_false_iff]; exact fun x => h (rightB_iff.1 x).1
theorem right_bad {v : Nat → Int} {n : Int} {k : Nat} (hk : k < 7) (h : okAt v n k = false) : rightB v n = false := by
  rw [Bool.eq_false_iff]
  intro x
  have := (rightB_iff.1 x).2 k hk
  rw [h] at this; cases this
theorem okAt_iff {v : Nat → Int} {n : Int} {k : Nat} : okAt v n k = true ↔ (0 ≤ v k ∧ v k ≤ 400 ∧ (n ≤ k → v k = 0)) := by unfold okAt; exact decide_eq_true_iff
theorem okAt_no {v : Nat → Int} {n : Int} {k : Nat} (h : ¬ (0 ≤ v k ∧ v k ≤ 400 ∧ (n ≤ k → v k = 0))) : okAt v n k = false := by
  rw [Bool.eq_false_iff]; exact fun x => h (okAt_iff.1 x)
end Go.Proofs.Ytmaecknjamnnpaa.Ve
/- Seven cells, read, written and compared as a whole. -/
namespace Go.Proofs.Ytmaecknjamnnpaa.Ve
open Go.RowKit
set_option linter.unusedVariables false
open Go.Proofs.Ytmaecknjamnnpaa.Fx (nx nd)
def fc (f : Nat → Int) : Array Value := ((List.range 7).map fun i => Value.int .i64 (f i)).toArray
theorem fc_size (f : Nat → Int) : (fc f).size = 7 := by simp [fc]
theorem fc_at (f : Nat → Int) (k : Nat) (h : k < 7) : (fc f)[k]? = some (.int .i64 (f k)) := by simp [fc, h]
theorem fc_get (f : Nat → Int) (k : Nat) (h : k < (fc f).size) : (fc f)[k] = .int .i64 (f k) := by simp [fc]
theorem fc_set (f : Nat → Int) (k : Nat) (x : Int) : (fc f).setIfInBounds k (.int .i64 x) = fc (upd f k x) := by
  apply Array.ext'
  unfold fc
  rw [Array.toList_setIfInBounds]
  apply List.ext_getElem
  · simp
  · intro i h1 h2
    simp at h1 h2
    rw [List.getElem_set]
    by_cases h : k = i
    · subst h; simp [upd]
    · have h3 : ¬ i = k := fun e => h e.symm
      simp [h, upd, h3]
theorem fc_congr {f g : Nat → Int} (h : ∀ i, i < 7 → f i = g i) : fc f = fc g := by
  apply Array.ext'
  unfold fc
  simp only
  apply List.map_congr_left
  intro i hi
  rw [h i (by simpa using hi)]
theorem fc_inj {f g : Nat → Int} : fc f = fc g ↔ eqV f g = true := by
  rw [eqV_iff]
  refine ⟨fun h i hi => ?_, fc_congr⟩
  have h1 := fc_at f i hi
  rw [h, fc_at g i hi] at h1
  simp at h1
  exact h1.symm
theorem fc_list (f : Nat → Int) : (fc f).toList = [.int .i64 (f 0), .int .i64 (f 1), .int .i64 (f 2), .int .i64 (f 3), .int .i64 (f 4), .int .i64 (f 5), .int .i64 (f 6)] := rfl
theorem fc_one (f : Nat → Int) : (fc f).all (·.oneCell') = true := by
  rw [← Array.all_toList, fc_list]; rfl
def oneAll (v : Value) : Bool := v.cells.all (·.oneCell')
theorem oneAll_fc (f : Nat → Int) : oneAll (.agg (fc f)) = true := fc_one f
def row (w : World) (b : Nat) : Array Value := match w.heap[b]? with | some (.cells cs _ _) => cs | _ => #[]
/-- Block b is a row of seven cells that may be written. -/
def plain (w : World) (b : Nat) : Bool := match w.heap[b]? with | some (.cells cs _ fr) => cs.size == 7 && fr == (0, 0) | _ => false
def rowOf (w : World) : Value → Array Value
  | .pointer (some ⟨b, 0, none⟩) => row w b
  | _ => #[]
def plainAt (w : World) : Value → Bool
  | .pointer (some ⟨b, 0, none⟩) => plain w b
  | _ => false
def putRow (w : World) : Value → Array Value → World
  | .pointer (some ⟨b, 0, none⟩), cs => w.setRow b cs
  | _, _ => w
theorem rowOf_at (w : World) (b : Nat) : rowOf w (.pointer (some ⟨b, 0, none⟩)) = row w b := rfl
theorem plainAt_at (w : World) (b : Nat) : plainAt w (.pointer (some ⟨b, 0, none⟩)) = plain w b := rfl
theorem putRow_at (w : World) (b : Nat) (cs : Array Value) : putRow w (.pointer (some ⟨b, 0, none⟩)) cs = w.setRow b cs := rfl
theorem row_new (w : World) (c : Array Value) (t : TypeId) (n : Nat) (h : n = w.heap.size) : row (w.alloc (.cells c t)) n = c := by
  subst h; unfold row; rw [heap_alloc_new]
theorem row_past (w : World) (o : Obj) (n : Nat) (h : n < w.heap.size) : row (w.alloc o) n = row w n := by
  unfold row; rw [Below.heap_alloc w o n h]
theorem row_drew (w : World) (n : Nat) : row w.drew n = row w n := rfl
theorem plain_new (w : World) (c : Array Value) (t : TypeId) (n : Nat) (h : n = w.heap.size) : plain (w.alloc (.cells c t)) n = (c.size == 7) := by
  subst h; unfold plain; rw [heap_alloc_new]; simp
theorem plain_past (w : World) (o : Obj) (n : Nat) (h : n < w.heap.size) : plain (w.alloc o) n = plain w n := by
  unfold plain; rw [Below.heap_alloc w o n h]
theorem plain_drew (w : World) (n : Nat) : plain w.drew n = plain w n := rfl
theorem setRow_new (w : World) (c c' : Array Value) (t : TypeId) (n : Nat) (h : n = w.heap.size) : (w.alloc (.cells c t)).setRow n c' = w.alloc (.cells c' t) := by
  subst h; exact World.setRow_alloc_new w c c' t
theorem setRow_drew (w : World) (n : Nat) (c : Array Value) : w.drew.setRow n c = (w.setRow n c).drew := rfl
theorem setRow_past (w : World) (o : Obj) (n : Nat) (c : Array Value) (h : n < w.heap.size) : (w.alloc o).setRow n c = (w.setRow n c).alloc o := by
  simp only [World.setRow, World.alloc]
  congr 1
  apply Array.ext_getElem?
  intro k
  simp only [Array.getElem?_modify, Array.getElem?_push, Array.size_modify]
  by_cases hk : k = w.heap.size
  · subst hk
    simp [Nat.ne_of_lt h]
  · simp [hk]
theorem plain_of {w : World} {b : Nat} (h : plain w b = true) : ∃ cs t, w.heap[b]? = some (.cells cs t (0, 0)) ∧ cs.size = 7 := by
  unfold plain at h
  split at h
  · rename_i cs t fr e
    simp only [Bool.and_eq_true, beq_iff_eq] at h
    obtain ⟨h1, rfl⟩ := h
    exact ⟨cs, t, e, h1⟩
  · cases h
theorem row_set {w : World} {b : Nat} (c : Array Value) (h : plain w b = true) : row (w.setRow b c) b = c := by
  obtain ⟨cs, t, e, _⟩ := plain_of h
  unfold row; rw [setRow_heap w b cs c t _ e]
theorem row_of {w : World} {b : Nat} {cs : Array Value} (h : row w b = cs) (hs : cs.size = 7) : ∃ t fr, w.heap[b]? = some (.cells cs t fr) := by
  unfold row at h
  split at h
  · rename_i cs' t fr e
    subst h; exact ⟨t, fr, e⟩
  · subst h; cases hs
theorem info : (Try.prog.info? 30).map (·.size) = some 7 := by kernel_rfl
theorem run_load_fc {w : World} {v : Value} (h : (rowOf w v).size = 7) : (Instr.loadAt 30 v).run Try.prog w = .ok (.agg (rowOf w v)) w := by
  unfold rowOf at h
  split at h
  · rename_i b
    obtain ⟨t, fr, e⟩ := row_of rfl h
    simp only [Instr.loadAt, Instr.sureAddr, Sem.run_bind, Sem.run_pure, Result.andThen]
    rw [rowOf_at]
    exact run_loadVar_row w b t _ _ fr _ e Try.underlying30 rfl (by rw [h]; exact info)
  · cases h
theorem run_store_fc {w : World} {p : Value} {cs : Array Value} (h : plainAt w p = true) (hs : cs.size = 7) (h1 : cs.all (·.oneCell') = true) : (Instr.storeAt 30 p (.agg cs)).run Try.prog w = .ok () (putRow w p cs) := by
  unfold plainAt at h
  split at h
  · rename_i b
    obtain ⟨old, t, e, ho⟩ := plain_of h
    simp only [Instr.storeAt, Instr.sureAddr, Sem.run_bind, Sem.run_pure, Result.andThen]
    exact run_storeVar_row w b t _ old cs e (by rw [hs]; exact info) (by rw [ho, hs]) h1
  · cases h
/-- A vector that lies in a result's variable. -/
theorem ret_fc {fn : Func} {p : Tmp} (h : fn.results = #[.cell p 30]) (tmps : Array Value) (w : World) (f : Nat → Int) (hr : rowOf w (tmps.getD p undef) = fc f) : (results fn tmps).run Try.prog w = .ok (.agg (fc f)) w := by
  have h7 : (rowOf w (tmps.getD p undef)).size = 7 := by rw [hr]; exact fc_size f
  unfold rowOf at h7 hr
  split at h7
  · rename_i b e
    rw [e] at hr
    obtain ⟨t, fr, e2⟩ := row_of hr (fc_size f)
    exact results_cell_row h tmps w b t (fc f) fr _ e e2 Try.underlying30 rfl (by rw [fc_size]; exact info)
  · cases h7
section
variable (ρ : Operand → Value) (dst : Option Tmp) (ty : TypeId) (pos : String) (after : Array Edge) (guard : Option (Nat × Bool)) (w : World)
theorem exec_load (x : Operand) (h : (rowOf w (ρ x)).size = 7) :
    (execOp ρ { dst, op := .load 30 x, type := ty, pos, after, guard }).run Try.prog w = .ok (.value (.agg (rowOf w (ρ x)))) w := by
  simp [execOp, run_load_fc h]
theorem exec_store (p x : Operand) (h : plainAt w (ρ p) = true) (hs : (ρ x).cells.size = 7) (h1 : oneAll (ρ x) = true) (ha : ρ x = .agg (ρ x).cells) :
    (execOp ρ { dst, op := .store 30 p x, type := ty, pos, after, guard }).run Try.prog w = .ok .skip (putRow w (ρ p) (ρ x).cells) := by
  have := run_store_fc (cs := (ρ x).cells) h hs h1
  rw [← ha] at this
  simp [execOp, this]
theorem zero : ∀ w, (zeroValue 30).run Try.prog w = .ok (.agg (fc zeroV)) w := (zero_of_info (n := 7) (by kernel_rfl)).1
theorem exec_alloc : (execOp ρ { dst, op := .alloc 30, type := ty, pos, after, guard }).run Try.prog w = .ok (.value (.pointer (some ⟨w.heap.size, 0, none⟩))) (w.alloc (.cells (fc zeroV) 30)) := by
  have hz := zero w
  have hn : (newVar 30 (.agg (fc zeroV))).run Try.prog w = .ok ⟨w.heap.size, 0, none⟩ (w.alloc (.cells (fc zeroV) 30)) := rfl
  simp only [execOp, Instr.alloc, Sem.run_bind, hz, hn, Result.andThen, Sem.run_pure]
theorem exec_build : (execOp ρ { dst, op := .build 30 #[], type := ty, pos, after, guard }).run Try.prog w = .ok (.value (.agg (fc zeroV))) w := by
  have := run_build (P := Try.prog) w 30 #[] (fc zeroV) (by kernel_rfl)
  simp [execOp, this]
end
end Go.Proofs.Ytmaecknjamnnpaa.Ve
/- Vectors compared as a whole; what a call leaves of the blocks below. -/
namespace Go.Proofs.Ytmaecknjamnnpaa.Ve
open Go.RowKit
set_option linter.unusedVariables false
open Go.Proofs.Ytmaecknjamnnpaa.Fx (nx nd)
attribute [go_sem ↓] exec_load exec_store exec_alloc exec_build
attribute [go_sem] rowOf_at plainAt_at putRow_at row_new row_past row_drew plain_new plain_past plain_drew setRow_new setRow_past setRow_drew fc_size fc_at fc_get fc_set oneAll_fc
@[go_sem] theorem lt2 (n : Nat) : n < n + 1 + 1 := by omega
@[go_sem] theorem lt3 (n : Nat) : n < n + 1 + 1 + 1 := by omega
@[go_sem] theorem lt4 (n : Nat) : n < n + 1 + 1 + 1 + 1 := by omega
theorem part_fc (f : Nat → Int) (k : Nat) (h : k < 7) (w : World) : (part 3 (fc f) k).run Try.prog w = .ok (.int .i64 (f k)) w := by
  simp [part, Try.isAgg3, fc_at f k h]
theorem eqInt (a b : Int) (w : World) : (Op.equalIn 9999 3 (.int .i64 a) (.int .i64 b)).run Try.prog w = .ok (a == b) w := by
  rw [show (9999 : Nat) = 9998 + 1 from rfl, Op.equalIn]
  simp [run_underlying Try.underlying3]
theorem eqAll (f g : Nat → Int) (w : World) : ∀ (n s : Nat), s + n ≤ 7 →
    Sem.run Try.prog (forIn (List.range' s n) ((none : Option Bool), ()) fun i _ => (do
      if !(← Op.equalIn 9999 3 (← part 3 (fc f) (i * 1)) (← part 3 (fc g) (i * 1))) then pure (ForInStep.done (some false, ())) else pure (ForInStep.yield (none, ())) : Sem (ForInStep (Option Bool × Unit)))) w =
    .ok (if (List.range' s n).all (fun i => decide (f i = g i)) then (none, ()) else (some false, ())) w
  | 0, s, _ => by simp
  | n + 1, s, h => by
    rw [List.range'_succ, List.forIn_cons]
    have h1 := part_fc f (s * 1) (by omega) w
    have h2 := part_fc g (s * 1) (by omega) w
    have h3 := eqInt (f (s * 1)) (g (s * 1)) w
    simp only [Sem.run_bind, h1, h2, h3, Result.andThen]
    rw [Nat.mul_one]
    by_cases e : f s = g s
    · have := eqAll f g w n (s + 1) (by omega)
      rw [List.all_cons, decide_eq_true e, Bool.true_and]
      simpa [e] using this
    · rw [List.all_cons, decide_eq_false e, Bool.false_and]
      simp [e]
@[go_sem] theorem eqV_run (f g : Nat → Int) (w : World) : (Op.equalIn 10000 30 (.agg (fc f)) (.agg (fc g))).run Try.prog w = .ok (eqV f g) w := by
  rw [show (10000 : Nat) = 9999 + 1 from rfl, Op.equalIn]
  simp only [Sem.run_bind, run_underlying Try.underlying30, Result.andThen_ok, Try.sizeOf3]
  have h := eqAll f g w 7 0 (by omega)
  simp only [Std.Legacy.Range.forIn_eq_forIn_range', Std.Legacy.Range.size, Nat.sub_zero, Nat.add_sub_cancel, Nat.div_one]
  rw [h]
  by_cases e : (List.range' 0 7).all (fun i => decide (f i = g i)) = true
  · rw [if_pos e]
    have : eqV f g = true := e
    rw [this]; rfl
  · rw [if_neg e]
    have : eqV f g = false := Bool.eq_false_iff.2 e
    rw [this]; rfl
@[go_sem] theorem eqlV (f g : Nat → Int) (w : World) : (binOp .eql 30 (.agg (fc f)) (.agg (fc g))).run Try.prog w = .ok (.bool (eqV f g)) w := by
  rw [run_eql_struct, eqV_run]; rfl
@[go_sem] theorem neqV (f g : Nat → Int) (w : World) : (binOp .neq 30 (.agg (fc f)) (.agg (fc g))).run Try.prog w = .ok (.bool (!eqV f g)) w := by
  rw [run_neq_struct, eqV_run]; rfl
@[go_sem] theorem guardV (op : BinOp) (x y : Operand) (f g : Nat → Int) (w : World) : (eqGuard op 30 x y (.agg (fc f)) (.agg (fc g))).run Try.prog w = .ok () w :=
  run_eqGuard_agg w op _ x y _ _ (by kernel_rfl)
@[go_sem] theorem index_fc (f : Nat → Int) (i : Int) (h0 : 0 ≤ i) (h7 : i < 7) (w : World) : (Instr.index 30 (.agg (fc f)) (.int .i64 i)).run Try.prog w = .ok (.int .i64 (f i.toNat)) w := by
  have h := part_fc f i.toNat (by omega) w
  simp only [Instr.index, asIntOf, Sem.run_bind, Sem.run_pure, Result.andThen, run_underlying Try.underlying30]
  rw [if_pos ⟨h0, h7⟩]
  simp only [Sem.run_bind, Result.andThen, Try.sizeOf3, Nat.mul_one, h]
@[go_sem] theorem indexAt_fc (b : Nat) (i : Int) (h0 : 0 ≤ i) (h7 : i < 7) (w : World) : (Instr.indexAt 30 (.pointer (some ⟨b, 0, none⟩)) (.int .i64 i)).run Try.prog w = .ok (.pointer (some ⟨b, i.toNat, none⟩)) w := by
  have h : (0 : Int) ≤ i ∧ i < (7 : Nat) := ⟨h0, h7⟩
  have ha : (⟨b, 0, none⟩ : Addr).add i.toNat = ⟨b, i.toNat, none⟩ := by unfold Addr.add; split <;> simp_all
  simp only [Instr.indexAt, asIntOf, Instr.sureAddr, run_underlying Try.underlying30, Sem.run_bind, Sem.run_pure, Result.andThen]
  rw [if_pos h]
  simp only [Sem.run_bind, Result.andThen, Try.sizeOf3, Nat.mul_one, Sem.run_pure, ha]
@[go_sem] theorem cast_nonneg (k : Nat) : (0 : Int) ≤ (k : Int) := Int.natCast_nonneg k
theorem bcell {W w1 : World} (hb : Below W.heap.size W w1) : (∀ b o, b < W.heap.size → w1.cell? ⟨b, o, none⟩ = W.cell? ⟨b, o, none⟩) ∧ (∀ b o, b < W.heap.size → w1.frozen? ⟨b, o, none⟩ = W.frozen? ⟨b, o, none⟩) ∧
    (∀ b, b < W.heap.size → row w1 b = row W b) ∧ (∀ b, b < W.heap.size → plain w1 b = plain W b) :=
  ⟨fun b o h => hb.cell (p := ⟨b, o, none⟩) h, fun b o h => hb.frozen (p := ⟨b, o, none⟩) h, fun b h => by unfold row; rw [hb.block b h], fun b h => by unfold plain; rw [hb.block b h]⟩
theorem _root_.Go.Below.setRow {B : Nat} {a w : World} (h : Below B a w) {p : Nat} (hp : B ≤ p) (c : Array Value) : Below B a (w.setRow p c) :=
  h.trans ⟨rfl, rfl, rfl, by simp, fun k hk => setRow_other w p k c (by omega)⟩
theorem below1 (w : World) (o : Obj) : Below w.heap.size w (w.alloc o) := (Below.refl _ _).alloc (Nat.le_refl _) _
theorem below2 (w : World) (o p : Obj) : Below w.heap.size w ((w.alloc o).alloc p) := nx (below1 _ _) (below1 _ _)
theorem below3 (w : World) (o p q : Obj) : Below w.heap.size w (((w.alloc o).alloc p).alloc q) := nx (below2 _ _ _) (below1 _ _)
end Go.Proofs.Ytmaecknjamnnpaa.Ve
/- Max, Raise of package vector and the document's own. -/
namespace Go.Proofs.Ytmaecknjamnnpaa.Ve
open Go.RowKit
set_option linter.unusedVariables false
open Go.Proofs.Ytmaecknjamnnpaa.Fx (nx nd)
set_option maxHeartbeats 400000 in
theorem max_any (a b : Nat → Int) (w : World) :
    Calls Try.prog 37 #[.agg (fc a), .agg (fc b)] w fun e w' => e = .returned (.agg (fc (maxV a b))) ∧ Below w.heap.size w w' := by
  go_enter Try.func37, Try.ntmps37
  go_wp2
  go_loopw [8] (fun i wr => ∃ k : Nat, k ≤ 7 ∧ i = .int .i64 k ∧ wr = ((w.alloc (.cells (fc (mixV a b k)) 30)).alloc (.cells (fc b) 30)).alloc (.cells (fc zeroV) 30)) (fun i _ => 7 - (intOf i).toNat)
  case atStart => exact ⟨0, Nat.zero_le _, rfl, by rw [mix_zero]⟩
  case round =>
    obtain ⟨k, hk, rfl, rfl⟩ := hrel
    by_cases hlt : k < 7
    · have hm := mix_at a b k
      have hs := mix_succ a b k
      have hlt2 : (k : Int) < 7 := by omega
      go_wp2
      go_roundw
      case rel => exact ⟨k + 1, by omega, by go_num, rfl⟩
      case measure => simp [intOf]; omega
    · obtain rfl : k = 7 := by omega
      have he : fc (mixV a b 7) = fc (maxV a b) := fc_congr (mix_all a b)
      go_wp2
      exact bodyPost_ret (v := .agg (fc (maxV a b))) (ret_fc Try.results37 _ _ _ (by simp [go_sem])) rfl ⟨rfl, below3 _ _ _ _⟩
set_option maxHeartbeats 800000 in
theorem rMax_any (a b : Nat → Int) (w : World) :
    Calls Try.prog 50 #[.agg (fc a), .agg (fc b)] w fun e w' => e = .returned (.agg (fc (maxV a b))) ∧ Below w.heap.size w w' := by
  go_enter Try.func50, Try.ntmps50
  go_wp2
  go_loopw [6] (fun i wr => ∃ (k : Nat) (u : World), k ≤ 7 ∧ i = .int .i64 k ∧ w.heap.size = u.heap.size ∧ Below w.heap.size w u ∧ wr = ((u.alloc (.cells (fc (mixV a b k)) 30)).alloc (.cells (fc b) 30)).alloc (.cells (fc zeroV) 30)) (fun i _ => 7 - (intOf i).toNat)
  case atStart => exact ⟨0, w, Nat.zero_le _, rfl, rfl, Below.refl _ _, by rw [mix_zero]⟩
  case round =>
    obtain ⟨k, u, hk, rfl, hu, hb, rfl⟩ := hrel
    by_cases hlt : k < 7
    · have hm := mix_at a b k
      have hs := mix_succ a b k
      have hlt2 : (k : Int) < 7 := by omega
      go_wp2
      go_region
      go_wp2
      go_roundw
      case rel => exact ⟨k + 1, u.drew, by omega, by go_num, hu, hb.drew, rfl⟩
      case measure => simp [intOf]; omega
    · obtain rfl : k = 7 := by omega
      have he : fc (mixV a b 7) = fc (maxV a b) := fc_congr (mix_all a b)
      go_wp2
      exact bodyPost_ret (v := .agg (fc (maxV a b))) (ret_fc Try.results50 _ _ _ (by simp [go_sem, hu])) rfl ⟨rfl, nx hb (below3 _ _ _ _)⟩
end Go.Proofs.Ytmaecknjamnnpaa.Ve
/- Raise, Count, full of package vector; the document's own Raise, Count. -/
namespace Go.Proofs.Ytmaecknjamnnpaa.Ve
open Go.RowKit
set_option linter.unusedVariables false
open Go.Proofs.Ytmaecknjamnnpaa.Fx (nx nd)
theorem isReplica_any (r : Int) (w : World) :
    Calls Try.prog 40 #[.int .i64 r] w fun e w' => e = .returned (.bool (isR r)) ∧ w' = w := by
  by_cases h0 : 0 ≤ r
  · have hd : decide (r < 7) = isR r := by unfold isR; simp [h0]
    have H := Lib.hid hd
    clear hd
    go_enter Try.func40, Try.ntmps40
    go_wp2
    go_ret
    exact ⟨by rw [← H.out]; rfl, rfl⟩
  · have hd : isR r = false := by unfold isR; simp [h0]
    have H := Lib.hid hd
    have hd1 : decide (0 ≤ r) = false := by simpa using h0
    clear hd
    go_enter Try.func40, Try.ntmps40
    go_wp2
    go_ret
    exact ⟨by rw [H.out]; rfl, rfl⟩
set_option maxHeartbeats 400000 in
theorem raise_any (v : Nat → Int) (r s : Int) (w : World) :
    Calls Try.prog 41 #[.agg (fc v), .agg #[.int .i64 r, .int .i64 s]] w fun e w' => e = .returned (.agg (fc (raiseV v r s))) ∧ Below w.heap.size w w' := by
  by_cases h : 0 ≤ r ∧ r < 7
  · have hR : isR r = true := by simpa [isR] using h
    obtain ⟨h0, h7⟩ := h
    have hn : r.toNat < 7 := by omega
    have HR := Lib.hid hR
    obtain ⟨m, hm⟩ : ∃ m, (if v r.toNat < s then s else v r.toNat) = m := ⟨_, rfl⟩
    have HV : Hid (fc (raiseV v r s) = fc (upd v r.toNat m)) := Lib.hid (by rw [raise_in ⟨h0, h7⟩, ← max_if, hm])
    clear hR
    rw [HV.out]
    go_enter Try.func41, Try.ntmps41
    go_wp2_with fail
    refine (isReplica_any r _).mono ?_
    rintro e w' ⟨rfl, rfl⟩
    rw [HR.out]
    go_wp2
    go_region
    go_wp2
    exact bodyPost_ret (v := .agg (fc (upd v r.toNat m))) (ret_fc Try.results41 _ _ _ (by simp [go_sem])) rfl ⟨rfl, (below3 _ _ _ _).drew⟩
  · have hR : isR r = false := by simpa [isR] using h
    have HR := Lib.hid hR
    have HV := Lib.hid (raise_out (v := v) (s := s) h)
    clear hR h
    rw [HV.out]
    go_enter Try.func41, Try.ntmps41
    go_wp2_with fail
    refine (isReplica_any r _).mono ?_
    rintro e w' ⟨rfl, rfl⟩
    rw [HR.out]
    go_wp2
    exact bodyPost_ret (v := .agg (fc v)) (ret_fc Try.results41 _ _ _ (by simp [go_sem])) rfl ⟨rfl, below3 _ _ _ _⟩
set_option maxHeartbeats 400000 in
theorem rRaise_any (v : Nat → Int) (r s : Int) (w : World) :
    Calls Try.prog 61 #[.agg (fc v), .agg #[.int .i64 r, .int .i64 s]] w fun e w' => e = .returned (.agg (fc (raiseV v r s))) ∧ Below w.heap.size w w' := by
  by_cases h0 : 0 ≤ r
  · by_cases h7 : r < 7
    · have hn : r.toNat < 7 := by omega
      obtain ⟨m, hm⟩ : ∃ m, (if v r.toNat < s then s else v r.toNat) = m := ⟨_, rfl⟩
      have HV : Hid (fc (raiseV v r s) = fc (upd v r.toNat m)) := Lib.hid (by rw [raise_in ⟨h0, h7⟩, ← max_if, hm])
      rw [HV.out]
      go_enter Try.func61, Try.ntmps61
      go_wp2
      go_region
      go_wp2
      exact bodyPost_ret (v := .agg (fc (upd v r.toNat m))) (ret_fc Try.results61 _ _ _ (by simp [go_sem])) rfl ⟨rfl, (below3 _ _ _ _).drew⟩
    · have HV := Lib.hid (raise_out (v := v) (s := s) (fun x => h7 x.2))
      have hd : decide (r < 7) = false := by simpa using h7
      rw [HV.out]
      go_enter Try.func61, Try.ntmps61
      go_wp2
      exact bodyPost_ret (v := .agg (fc v)) (ret_fc Try.results61 _ _ _ (by simp [go_sem])) rfl ⟨rfl, below3 _ _ _ _⟩
  · have HV := Lib.hid (raise_out (v := v) (s := s) (fun x => h0 x.1))
    have hd : decide (0 ≤ r) = false := by simpa using h0
    rw [HV.out]
    go_enter Try.func61, Try.ntmps61
    go_wp2
    exact bodyPost_ret (v := .agg (fc v)) (ret_fc Try.results61 _ _ _ (by simp [go_sem])) rfl ⟨rfl, below3 _ _ _ _⟩
theorem near_is (x : Int) : (if 400 < (if x < 0 then 0 else x) then 400 else (if x < 0 then 0 else x)) = near x := by
  unfold near; split <;> split <;> omega
theorem near_is2 (x : Int) : (if 0 < (if 400 < x then 400 else x) then (if 400 < x then 400 else x) else 0) = near x := by
  unfold near; split <;> split <;> omega
set_option maxHeartbeats 400000 in
theorem full_any (n : Int) (h1 : 1 ≤ n) (h7 : n ≤ 7) (w : World) :
    Calls Try.prog 70 #[.int .i64 n] w fun e w' => e = .returned (.agg (fc (fullTo n.toNat))) ∧ Below w.heap.size w w' := by
  obtain ⟨m, rfl⟩ : ∃ m : Nat, n = m := ⟨n.toNat, by omega⟩
  have hm7 : m ≤ 7 := by omega
  rw [Int.toNat_natCast]
  clear h1 h7
  go_enter Try.func70, Try.ntmps70
  go_wp2
  go_loopw [7] (fun i wr => ∃ k : Nat, k ≤ m ∧ i = .int .i64 k ∧ wr = (w.alloc (.cells (fc zeroV) 30)).alloc (.cells (fc (fullTo k)) 30)) (fun i _ => m - (intOf i).toNat)
  case atStart => exact ⟨0, Nat.zero_le _, rfl, by rw [full_zero]⟩
  case round =>
    obtain ⟨k, hk, rfl, rfl⟩ := hrel
    by_cases hlt : k < m
    · have hs := full_succ k
      have hlt7 : (k : Int) < 7 := by omega
      have hlt8 : k < 7 := by omega
      have hlt2 : (k : Int) < m := by omega
      go_wp2
      go_roundw
      case rel => exact ⟨k + 1, by omega, by go_num, rfl⟩
      case measure => simp [intOf]; omega
    · obtain rfl : k = m := by omega
      go_wp2
      exact bodyPost_ret (v := .agg (fc (fullTo k))) (ret_fc Try.results70 _ _ _ (by simp [go_sem])) rfl ⟨rfl, below2 _ _ _⟩
end Go.Proofs.Ytmaecknjamnnpaa.Ve
/- Under, Covers, Right of package vector and the document's own. -/
namespace Go.Proofs.Ytmaecknjamnnpaa.Ve
open Go.RowKit
set_option linter.unusedVariables false
open Go.Proofs.Ytmaecknjamnnpaa.Fx (nx nd)
theorem isReplica_is (r : Int) (x : Bool) (h : isR r = x) (w : World) :
    Calls Try.prog 40 #[.int .i64 r] w fun e w' => e = .returned (.bool x) ∧ Below w.heap.size w w' :=
  (isReplica_any r w).mono fun _ _ ⟨h1, h2⟩ => ⟨by rw [h1, h], by rw [h2]; exact Below.refl _ _⟩
set_option maxHeartbeats 400000 in
theorem under_any (a b : Nat → Int) (w : World) :
    Calls Try.prog 19 #[.agg (fc a), .agg (fc b)] w fun e w' => e = .returned (.bool (undB a b)) ∧ Below w.heap.size w w' := by
  have hu := max_under a b
  go_enter Try.func19, Try.ntmps19
  go_wp2_with fail
  refine Rg.region (by kernel_rfl) (by kernel_rfl) (by kernel_rfl) (fun _ _ d _ _ h => by cases d <;> exact h) _ rfl ?_
  repeat (first | (refine Rg.Seq.skip (by rfl) ?_; simp only [Act.put, List.setIfInBounds_toArray, List.set_cons_zero, List.set_cons_succ]) | (refine Rg.Seq.pure (v := ?_) (by rfl) ?_ ?_; rotate_left; (intro w_ hS_; obtain ⟨hc_, hf_⟩ := bcell hS_; go_simp <;> with_reducible rfl); simp only [Act.put, List.setIfInBounds_toArray, List.set_cons_zero, List.set_cons_succ]) | (refine Rg.Seq.call (v := ?_) (f := ?_) (args := ?_) (by rfl) ?_ ?_ ?_; rotate_left 3; (intro w_ hS_; obtain ⟨hc_, hf_⟩ := bcell hS_; go_simp <;> first | with_reducible rfl | (constructor <;> with_reducible rfl)); (intro w_ hS_; first | (go_at_call 37; refine (max_any a b _).mono ?_; rintro e w_ ⟨rfl, hb_⟩; refine ⟨?_, nx hS_ hb_⟩; with_reducible rfl)); simp only [Act.put, List.setIfInBounds_toArray, List.set_cons_zero, List.set_cons_succ]))
  intro w1 hb1
  go_wp2
  go_ret
  exact ⟨rfl, nx (below2 _ _ _) hb1⟩
theorem under_is (a b : Nat → Int) (x : Bool) (h : undB a b = x) (w : World) :
    Calls Try.prog 19 #[.agg (fc a), .agg (fc b)] w fun e w' => e = .returned (.bool x) ∧ Below w.heap.size w w' := by
  rw [← h]; exact under_any a b w
set_option maxHeartbeats 800000 in
theorem covers_any (v : Nat → Int) (r s : Int) (w : World) :
    Calls Try.prog 21 #[.agg (fc v), .agg #[.int .i64 r, .int .i64 s]] w fun e w' => e = .returned (.bool (covB v r s)) ∧ Below w.heap.size w w' := by
  by_cases h : 0 ≤ r ∧ r < 7
  · have HR : Hid (isR r = true) := Lib.hid (by simpa [isR] using h)
    by_cases h1 : 1 ≤ s
    · have hc := raise_cov (v := v) h h1
      clear h
      go_enter Try.func21, Try.ntmps21
      go_wp2_with fail
      refine Rg.region (by kernel_rfl) (by kernel_rfl) (by kernel_rfl) (fun _ _ d _ _ h => by cases d <;> exact h) _ rfl ?_
      repeat (first | (refine Rg.Seq.skip (by rfl) ?_; simp only [Act.put, List.setIfInBounds_toArray, List.set_cons_zero, List.set_cons_succ]) | (refine Rg.Seq.pure (v := ?_) (by rfl) ?_ ?_; rotate_left; (intro w_ hS_; obtain ⟨hc_, hf_⟩ := bcell hS_; go_simp <;> with_reducible rfl); simp only [Act.put, List.setIfInBounds_toArray, List.set_cons_zero, List.set_cons_succ]) | (refine Rg.Seq.call (v := ?_) (f := ?_) (args := ?_) (by rfl) ?_ ?_ ?_; rotate_left 3; (intro w_ hS_; obtain ⟨hc_, hf_⟩ := bcell hS_; go_simp <;> first | with_reducible rfl | (constructor <;> with_reducible rfl)); (intro w_ hS_; first | (go_at_call 40; refine (isReplica_is r true HR.out _).mono ?_; rintro e w_ ⟨rfl, hb_⟩; refine ⟨?_, nx hS_ hb_⟩; with_reducible rfl) | (go_at_call 41; refine (raise_any v r s _).mono ?_; rintro e w_ ⟨rfl, hb_⟩; refine ⟨?_, nx hS_ hb_⟩; with_reducible rfl)); simp only [Act.put, List.setIfInBounds_toArray, List.set_cons_zero, List.set_cons_succ]))
      intro w1 hb1
      go_wp2
      go_ret
      exact ⟨rfl, nx (below2 _ _ _) hb1⟩
    · have H : Hid (covB v r s = false) := Lib.hid (covB_no (fun x => h1 x.2.2.1))
      have hd : decide (1 ≤ s) = false := by simpa using h1
      rw [H.out]
      clear h
      go_enter Try.func21, Try.ntmps21
      go_wp2_with fail
      refine Rg.region (by kernel_rfl) (by kernel_rfl) (by kernel_rfl) (fun _ _ d _ _ h => by cases d <;> exact h) _ rfl ?_
      repeat (first | (refine Rg.Seq.skip (by rfl) ?_; simp only [Act.put, List.setIfInBounds_toArray, List.set_cons_zero, List.set_cons_succ]) | (refine Rg.Seq.pure (v := ?_) (by rfl) ?_ ?_; rotate_left; (intro w_ hS_; obtain ⟨hc_, hf_⟩ := bcell hS_; go_simp <;> with_reducible rfl); simp only [Act.put, List.setIfInBounds_toArray, List.set_cons_zero, List.set_cons_succ]) | (refine Rg.Seq.call (v := ?_) (f := ?_) (args := ?_) (by rfl) ?_ ?_ ?_; rotate_left 3; (intro w_ hS_; obtain ⟨hc_, hf_⟩ := bcell hS_; go_simp <;> first | with_reducible rfl | (constructor <;> with_reducible rfl)); (intro w_ hS_; first | (go_at_call 40; refine (isReplica_is r true HR.out _).mono ?_; rintro e w_ ⟨rfl, hb_⟩; refine ⟨?_, nx hS_ hb_⟩; with_reducible rfl)); simp only [Act.put, List.setIfInBounds_toArray, List.set_cons_zero, List.set_cons_succ]))
      intro w1 hb1
      go_wp2
      go_ret
      exact ⟨rfl, nx (below2 _ _ _) hb1⟩
  · have HR : Hid (isR r = false) := Lib.hid (by simpa [isR] using h)
    have H : Hid (covB v r s = false) := Lib.hid (covB_no (fun x => h ⟨x.1, x.2.1⟩))
    rw [H.out]
    clear h
    go_enter Try.func21, Try.ntmps21
    go_wp2_with fail
    refine Rg.region (by kernel_rfl) (by kernel_rfl) (by kernel_rfl) (fun _ _ d _ _ h => by cases d <;> exact h) _ rfl ?_
    repeat (first | (refine Rg.Seq.skip (by rfl) ?_; simp only [Act.put, List.setIfInBounds_toArray, List.set_cons_zero, List.set_cons_succ]) | (refine Rg.Seq.pure (v := ?_) (by rfl) ?_ ?_; rotate_left; (intro w_ hS_; obtain ⟨hc_, hf_⟩ := bcell hS_; go_simp <;> with_reducible rfl); simp only [Act.put, List.setIfInBounds_toArray, List.set_cons_zero, List.set_cons_succ]) | (refine Rg.Seq.call (v := ?_) (f := ?_) (args := ?_) (by rfl) ?_ ?_ ?_; rotate_left 3; (intro w_ hS_; obtain ⟨hc_, hf_⟩ := bcell hS_; go_simp <;> first | with_reducible rfl | (constructor <;> with_reducible rfl)); (intro w_ hS_; first | (go_at_call 40; refine (isReplica_is r false HR.out _).mono ?_; rintro e w_ ⟨rfl, hb_⟩; refine ⟨?_, nx hS_ hb_⟩; with_reducible rfl)); simp only [Act.put, List.setIfInBounds_toArray, List.set_cons_zero, List.set_cons_succ]))
    intro w1 hb1
    go_wp2
    go_ret
    exact ⟨rfl, nx (below2 _ _ _) hb1⟩
theorem covers_is (v : Nat → Int) (r s : Int) (x : Bool) (h : covB v r s = x) (w : World) :
    Calls Try.prog 21 #[.agg (fc v), .agg #[.int .i64 r, .int .i64 s]] w fun e w' => e = .returned (.bool x) ∧ Below w.heap.size w w' := by
  rw [← h]; exact covers_any v r s w
set_option maxHeartbeats 400000 in
theorem right_any (v : Nat → Int) (n : Int) (w : World) :
    Calls Try.prog 64 #[.agg (fc v), .int .i64 n] w fun e w' => e = .returned (.bool (rightB v n)) ∧ Below w.heap.size w w' := by
  by_cases h1 : n < 1
  · have H := Lib.hid (right_no (v := v) (n := n) (by omega))
    go_enter Try.func64, Try.ntmps64
    go_wp2
    go_ret
    exact ⟨by rw [H.out]; rfl, below1 _ _⟩
  · have hd1 : decide (n < 1) = false := by simpa using h1
    by_cases h7 : 7 < n
    · have H := Lib.hid (right_no (v := v) (n := n) (by omega))
      go_enter Try.func64, Try.ntmps64
      go_wp2
      go_ret
      exact ⟨by rw [H.out]; rfl, below1 _ _⟩
    · have hd7 : decide (7 < n) = false := by simpa using h7
      have hr := right_under (v := v) (n := n) (by omega)
      have hl : 1 ≤ n ∧ n ≤ 7 := by omega
      rw [← hr]
      clear hr h1 h7
      by_cases hz : undB zeroV v = true
      · have HZ := Lib.hid hz
        have HL := Lib.hid hl
        rw [hz, Bool.true_and]
        clear hz hl
        go_enter Try.func64, Try.ntmps64
        go_wp2_with fail
        refine Rg.region (by kernel_rfl) (by kernel_rfl) (by kernel_rfl) (fun _ _ d _ _ h => by cases d <;> exact h) _ rfl ?_
        repeat (first | (refine Rg.Seq.skip (by rfl) ?_; simp only [Act.put, List.setIfInBounds_toArray, List.set_cons_zero, List.set_cons_succ]) | (refine Rg.Seq.pure (v := ?_) (by rfl) ?_ ?_; rotate_left; (intro w_ hS_; obtain ⟨hc_, hf_⟩ := bcell hS_; go_simp <;> with_reducible rfl); simp only [Act.put, List.setIfInBounds_toArray, List.set_cons_zero, List.set_cons_succ]) | (refine Rg.Seq.call (v := ?_) (f := ?_) (args := ?_) (by rfl) ?_ ?_ ?_; rotate_left 3; (intro w_ hS_; obtain ⟨hc_, hf_⟩ := bcell hS_; go_simp <;> first | with_reducible rfl | (constructor <;> with_reducible rfl)); (intro w_ hS_; first | (go_at_call 19; (first | with_reducible refine (under_is zeroV v true HZ.out _).mono ?_ | with_reducible refine (under_any v (fullTo n.toNat) _).mono ?_); rintro e w_ ⟨rfl, hb_⟩; refine ⟨?_, nx hS_ hb_⟩; with_reducible rfl) | (go_at_call 70; refine (full_any n HL.out.1 HL.out.2 _).mono ?_; rintro e w_ ⟨rfl, hb_⟩; refine ⟨?_, nx hS_ hb_⟩; with_reducible rfl)); simp only [Act.put, List.setIfInBounds_toArray, List.set_cons_zero, List.set_cons_succ]))
        intro w1 hb1
        go_wp2
        go_ret
        exact ⟨rfl, nx (below1 _ _) hb1⟩
      · have HZ : Hid (undB zeroV v = false) := Lib.hid (Bool.eq_false_iff.2 hz)
        rw [HZ.out, Bool.false_and]
        clear hz hl
        go_enter Try.func64, Try.ntmps64
        go_wp2_with fail
        refine Rg.region (by kernel_rfl) (by kernel_rfl) (by kernel_rfl) (fun _ _ d _ _ h => by cases d <;> exact h) _ rfl ?_
        repeat (first | (refine Rg.Seq.skip (by rfl) ?_; simp only [Act.put, List.setIfInBounds_toArray, List.set_cons_zero, List.set_cons_succ]) | (refine Rg.Seq.pure (v := ?_) (by rfl) ?_ ?_; rotate_left; (intro w_ hS_; obtain ⟨hc_, hf_⟩ := bcell hS_; go_simp <;> with_reducible rfl); simp only [Act.put, List.setIfInBounds_toArray, List.set_cons_zero, List.set_cons_succ]) | (refine Rg.Seq.call (v := ?_) (f := ?_) (args := ?_) (by rfl) ?_ ?_ ?_; rotate_left 3; (intro w_ hS_; obtain ⟨hc_, hf_⟩ := bcell hS_; go_simp <;> first | with_reducible rfl | (constructor <;> with_reducible rfl)); (intro w_ hS_; first | (go_at_call 19; refine (under_is zeroV v false HZ.out _).mono ?_; rintro e w_ ⟨rfl, hb_⟩; refine ⟨?_, nx hS_ hb_⟩; with_reducible rfl)); simp only [Act.put, List.setIfInBounds_toArray, List.set_cons_zero, List.set_cons_succ]))
        intro w1 hb1
        go_wp2
        go_ret
        exact ⟨rfl, nx (below1 _ _) hb1⟩
end Go.Proofs.Ytmaecknjamnnpaa.Ve
