/- Seven cells, read, written and compared as a whole. -/
import Derived.Test.YtoncmbglmebkiaaRows
import Derived.WalkKit
import Derived.ProofKit
import Derived.Below
import Derived.BigQuiet
import Derived.WalkLawsBesides
import Derived.WalkSpells
import Derived.IntWalk
import Derived.Laws.Rows
import Derived.Laws.StructEq
import Derived.Deep.WholeRow
import Derived.Test.YtoncmbglmebkiaaFxC
import Derived.Test.YtoncmbglmebkiaaVePure
namespace Go.Proofs.Ytoncmbglmebkiaa.Ve
open Go.RowKit
set_option linter.unusedVariables false
open Go.Proofs.Ytoncmbglmebkiaa.Fx (nx nd)
def fc (f : Nat → Int) : Array Value := ((List.range 7).map fun i => Value.int .i64 (f i)).toArray
theorem fc_size (f : Nat → Int) : (fc f).size = 7 := by simp [fc]
theorem fc_at (f : Nat → Int) (k : Nat) (h : k < 7) : (fc f)[k]? = some (.int .i64 (f k)) := by simp [fc, h]
theorem fc_get (f : Nat → Int) (k : Nat) (h : k < (fc f).size) : (fc f)[k] = .int .i64 (f k) := by simp [fc]
theorem fc_set (f : Nat → Int) (k : Nat) (x : Int) : (fc f).setIfInBounds k (.int .i64 x) = fc (upd f k x) := by
  apply Array.ext'
  unfold fc
  rw [Array.toList_setIfInBounds]
  apply List.ext_getElem
  · simp
  · intro i h1 h2
    simp at h1 h2
    rw [List.getElem_set]
    by_cases h : k = i
    · subst h; simp [upd]
    · have h3 : ¬ i = k := fun e => h e.symm
      simp [h, upd, h3]
theorem fc_congr {f g : Nat → Int} (h : ∀ i, i < 7 → f i = g i) : fc f = fc g := by
  apply Array.ext'
  unfold fc
  simp only
  apply List.map_congr_left
  intro i hi
  rw [h i (by simpa using hi)]
theorem fc_inj {f g : Nat → Int} : fc f = fc g ↔ eqV f g = true := by
  rw [eqV_iff]
  refine ⟨fun h i hi => ?_, fc_congr⟩
  have h1 := fc_at f i hi
  rw [h, fc_at g i hi] at h1
  simp at h1
  exact h1.symm
theorem fc_list (f : Nat → Int) : (fc f).toList = [.int .i64 (f 0), .int .i64 (f 1), .int .i64 (f 2), .int .i64 (f 3), .int .i64 (f 4), .int .i64 (f 5), .int .i64 (f 6)] := rfl
theorem fc_one (f : Nat → Int) : (fc f).all (·.oneCell') = true := by
  rw [← Array.all_toList, fc_list]; rfl
def oneAll (v : Value) : Bool := v.cells.all (·.oneCell')
theorem oneAll_fc (f : Nat → Int) : oneAll (.agg (fc f)) = true := fc_one f
def row (w : World) (b : Nat) : Array Value := match w.heap[b]? with | some (.cells cs _ _) => cs | _ => #[]
/-- Block b is a row of seven cells that may be written. -/
def plain (w : World) (b : Nat) : Bool := match w.heap[b]? with | some (.cells cs _ fr) => cs.size == 7 && fr == (0, 0) | _ => false
def rowOf (w : World) : Value → Array Value
  | .pointer (some ⟨b, 0, none⟩) => row w b
  | _ => #[]
def plainAt (w : World) : Value → Bool
  | .pointer (some ⟨b, 0, none⟩) => plain w b
  | _ => false
def putRow (w : World) : Value → Array Value → World
  | .pointer (some ⟨b, 0, none⟩), cs => w.setRow b cs
  | _, _ => w
theorem rowOf_at (w : World) (b : Nat) : rowOf w (.pointer (some ⟨b, 0, none⟩)) = row w b := rfl
theorem plainAt_at (w : World) (b : Nat) : plainAt w (.pointer (some ⟨b, 0, none⟩)) = plain w b := rfl
theorem putRow_at (w : World) (b : Nat) (cs : Array Value) : putRow w (.pointer (some ⟨b, 0, none⟩)) cs = w.setRow b cs := rfl
theorem row_new (w : World) (c : Array Value) (t : TypeId) (n : Nat) (h : n = w.heap.size) : row (w.alloc (.cells c t)) n = c := by
  subst h; unfold row; rw [heap_alloc_new]
theorem row_past (w : World) (o : Obj) (n : Nat) (h : n < w.heap.size) : row (w.alloc o) n = row w n := by
  unfold row; rw [Below.heap_alloc w o n h]
theorem row_drew (w : World) (n : Nat) : row w.drew n = row w n := rfl
theorem plain_new (w : World) (c : Array Value) (t : TypeId) (n : Nat) (h : n = w.heap.size) : plain (w.alloc (.cells c t)) n = (c.size == 7) := by
  subst h; unfold plain; rw [heap_alloc_new]; simp
theorem plain_past (w : World) (o : Obj) (n : Nat) (h : n < w.heap.size) : plain (w.alloc o) n = plain w n := by
  unfold plain; rw [Below.heap_alloc w o n h]
theorem plain_drew (w : World) (n : Nat) : plain w.drew n = plain w n := rfl
theorem setRow_new (w : World) (c c' : Array Value) (t : TypeId) (n : Nat) (h : n = w.heap.size) : (w.alloc (.cells c t)).setRow n c' = w.alloc (.cells c' t) := by
  subst h; exact World.setRow_alloc_new w c c' t
theorem setRow_drew (w : World) (n : Nat) (c : Array Value) : w.drew.setRow n c = (w.setRow n c).drew := rfl
theorem setRow_past (w : World) (o : Obj) (n : Nat) (c : Array Value) (h : n < w.heap.size) : (w.alloc o).setRow n c = (w.setRow n c).alloc o := by
  simp only [World.setRow, World.alloc]
  congr 1
  apply Array.ext_getElem?
  intro k
  simp only [Array.getElem?_modify, Array.getElem?_push, Array.size_modify]
  by_cases hk : k = w.heap.size
  · subst hk
    simp [Nat.ne_of_lt h]
  · simp [hk]
theorem plain_of {w : World} {b : Nat} (h : plain w b = true) : ∃ cs t, w.heap[b]? = some (.cells cs t (0, 0)) ∧ cs.size = 7 := by
  unfold plain at h
  split at h
  · rename_i cs t fr e
    simp only [Bool.and_eq_true, beq_iff_eq] at h
    obtain ⟨h1, rfl⟩ := h
    exact ⟨cs, t, e, h1⟩
  · cases h
theorem row_set {w : World} {b : Nat} (c : Array Value) (h : plain w b = true) : row (w.setRow b c) b = c := by
  obtain ⟨cs, t, e, _⟩ := plain_of h
  unfold row; rw [setRow_heap w b cs c t _ e]
theorem row_of {w : World} {b : Nat} {cs : Array Value} (h : row w b = cs) (hs : cs.size = 7) : ∃ t fr, w.heap[b]? = some (.cells cs t fr) := by
  unfold row at h
  split at h
  · rename_i cs' t fr e
    subst h; exact ⟨t, fr, e⟩
  · subst h; cases hs
theorem info : (Try.prog.info? 31).map (·.size) = some 7 := by kernel_rfl
theorem run_load_fc {w : World} {v : Value} (h : (rowOf w v).size = 7) : (Instr.loadAt 31 v).run Try.prog w = .ok (.agg (rowOf w v)) w := by
  unfold rowOf at h
  split at h
  · rename_i b
    obtain ⟨t, fr, e⟩ := row_of rfl h
    simp only [Instr.loadAt, Instr.sureAddr, Sem.run_bind, Sem.run_pure, Result.andThen]
    rw [rowOf_at]
    exact run_loadVar_row w b t _ _ fr _ e Try.underlying31 rfl (by rw [h]; exact info)
  · cases h
theorem run_store_fc {w : World} {p : Value} {cs : Array Value} (h : plainAt w p = true) (hs : cs.size = 7) (h1 : cs.all (·.oneCell') = true) : (Instr.storeAt 31 p (.agg cs)).run Try.prog w = .ok () (putRow w p cs) := by
  unfold plainAt at h
  split at h
  · rename_i b
    obtain ⟨old, t, e, ho⟩ := plain_of h
    simp only [Instr.storeAt, Instr.sureAddr, Sem.run_bind, Sem.run_pure, Result.andThen]
    exact run_storeVar_row w b t _ old cs e (by rw [hs]; exact info) (by rw [ho, hs]) h1
  · cases h
/-- A vector that lies in a result's variable. -/
theorem ret_fc {fn : Func} {p : Tmp} (h : fn.results = #[.cell p 31]) (tmps : Array Value) (w : World) (f : Nat → Int) (hr : rowOf w (tmps.getD p undef) = fc f) : (results fn tmps).run Try.prog w = .ok (.agg (fc f)) w := by
  have h7 : (rowOf w (tmps.getD p undef)).size = 7 := by rw [hr]; exact fc_size f
  unfold rowOf at h7 hr
  split at h7
  · rename_i b e
    rw [e] at hr
    obtain ⟨t, fr, e2⟩ := row_of hr (fc_size f)
    exact results_cell_row h tmps w b t (fc f) fr _ e e2 Try.underlying31 rfl (by rw [fc_size]; exact info)
  · cases h7
section
variable (ρ : Operand → Value) (dst : Option Tmp) (ty : TypeId) (pos : String) (after : Array Edge) (guard : Option (Nat × Bool)) (w : World)
theorem exec_load (x : Operand) (h : (rowOf w (ρ x)).size = 7) :
    (execOp ρ { dst, op := .load 31 x, type := ty, pos, after, guard }).run Try.prog w = .ok (.value (.agg (rowOf w (ρ x)))) w := by
  simp [execOp, run_load_fc h]
theorem exec_store (p x : Operand) (h : plainAt w (ρ p) = true) (hs : (ρ x).cells.size = 7) (h1 : oneAll (ρ x) = true) (ha : ρ x = .agg (ρ x).cells) :
    (execOp ρ { dst, op := .store 31 p x, type := ty, pos, after, guard }).run Try.prog w = .ok .skip (putRow w (ρ p) (ρ x).cells) := by
  have := run_store_fc (cs := (ρ x).cells) h hs h1
  rw [← ha] at this
  simp [execOp, this]
theorem zero : ∀ w, (zeroValue 31).run Try.prog w = .ok (.agg (fc zeroV)) w := (zero_of_info (n := 7) (by kernel_rfl)).1
theorem exec_alloc : (execOp ρ { dst, op := .alloc 31, type := ty, pos, after, guard }).run Try.prog w = .ok (.value (.pointer (some ⟨w.heap.size, 0, none⟩))) (w.alloc (.cells (fc zeroV) 31)) := by
  have hz := zero w
  have hn : (newVar 31 (.agg (fc zeroV))).run Try.prog w = .ok ⟨w.heap.size, 0, none⟩ (w.alloc (.cells (fc zeroV) 31)) := rfl
  simp only [execOp, Instr.alloc, Sem.run_bind, hz, hn, Result.andThen, Sem.run_pure]
theorem exec_build : (execOp ρ { dst, op := .build 31 #[], type := ty, pos, after, guard }).run Try.prog w = .ok (.value (.agg (fc zeroV))) w := by
  have := run_build (P := Try.prog) w 31 #[] (fc zeroV) (by kernel_rfl)
  simp [execOp, this]
end
end Go.Proofs.Ytoncmbglmebkiaa.Ve
