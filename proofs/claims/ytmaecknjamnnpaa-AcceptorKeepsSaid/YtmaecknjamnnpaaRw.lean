/- A struct or an array that lies in a block of its own, read, written and made as a whole, whatever its cells are. Of no program. -/
import Derived.WalkKit
import Derived.ProofKit
import Derived.Below
import Derived.BigQuiet
import Derived.WalkLawsBesides
import Derived.WalkSpells
import Derived.IntWalk
import Derived.Laws.Rows
import Derived.Laws.StructEq
import Derived.Deep.WholeRow
namespace Go.Proofs.Ytmaecknjamnnpaa.Rw
open Go.RowKit
set_option linter.unusedVariables false
theorem nx {a b c : World} (h : Below a.heap.size a b) (k : Below b.heap.size b c) : Below a.heap.size a c := h.trans (k.mono h.size)
/-- The cells of block b. -/
def row (w : World) (b : Nat) : Array Value := match w.heap[b]? with | some (.cells cs _ _) => cs | _ => #[]
/-- Block b is a row of n cells that may be written. -/
def plain (n : Nat) (w : World) (b : Nat) : Bool := match w.heap[b]? with | some (.cells cs _ fr) => cs.size == n && fr == (0, 0) | _ => false
def rowOf (w : World) : Value → Array Value
  | .pointer (some ⟨b, 0, none⟩) => row w b
  | _ => #[]
def plainAt (n : Nat) (w : World) : Value → Bool
  | .pointer (some ⟨b, 0, none⟩) => plain n w b
  | _ => false
def putRow (w : World) : Value → Array Value → World
  | .pointer (some ⟨b, 0, none⟩), cs => w.setRow b cs
  | _, _ => w
def oneAll (v : Value) : Bool := v.cells.all (·.oneCell')
theorem rowOf_at (w : World) (b : Nat) : rowOf w (.pointer (some ⟨b, 0, none⟩)) = row w b := rfl
theorem plainAt_at (n : Nat) (w : World) (b : Nat) : plainAt n w (.pointer (some ⟨b, 0, none⟩)) = plain n w b := rfl
theorem putRow_at (w : World) (b : Nat) (cs : Array Value) : putRow w (.pointer (some ⟨b, 0, none⟩)) cs = w.setRow b cs := rfl
theorem row_new (w : World) (c : Array Value) (t : TypeId) (n : Nat) (h : n = w.heap.size) : row (w.alloc (.cells c t)) n = c := by
  subst h; unfold row; rw [heap_alloc_new]
theorem row_past (w : World) (o : Obj) (n : Nat) (h : n < w.heap.size) : row (w.alloc o) n = row w n := by
  unfold row; rw [Below.heap_alloc w o n h]
theorem row_drew (w : World) (n : Nat) : row w.drew n = row w n := rfl
theorem plain_new (m : Nat) (w : World) (c : Array Value) (t : TypeId) (n : Nat) (h : n = w.heap.size) : plain m (w.alloc (.cells c t)) n = (c.size == m) := by
  subst h; unfold plain; rw [heap_alloc_new]; simp
theorem plain_past (m : Nat) (w : World) (o : Obj) (n : Nat) (h : n < w.heap.size) : plain m (w.alloc o) n = plain m w n := by
  unfold plain; rw [Below.heap_alloc w o n h]
theorem plain_drew (m : Nat) (w : World) (n : Nat) : plain m w.drew n = plain m w n := rfl
theorem setRow_new (w : World) (c c' : Array Value) (t : TypeId) (n : Nat) (h : n = w.heap.size) : (w.alloc (.cells c t)).setRow n c' = w.alloc (.cells c' t) := by
  subst h; exact World.setRow_alloc_new w c c' t
theorem setRow_drew (w : World) (n : Nat) (c : Array Value) : w.drew.setRow n c = (w.setRow n c).drew := rfl
theorem setRow_past (w : World) (o : Obj) (n : Nat) (c : Array Value) (h : n < w.heap.size) : (w.alloc o).setRow n c = (w.setRow n c).alloc o := by
  simp only [World.setRow, World.alloc]
  congr 1
  apply Array.ext_getElem?
  intro k
  simp only [Array.getElem?_modify, Array.getElem?_push, Array.size_modify]
  by_cases hk : k = w.heap.size
  · subst hk
    simp [Nat.ne_of_lt h]
  · simp [hk]
theorem plain_of {n : Nat} {w : World} {b : Nat} (h : plain n w b = true) : ∃ cs t, w.heap[b]? = some (.cells cs t (0, 0)) ∧ cs.size = n := by
  unfold plain at h
  split at h
  · rename_i cs t fr e
    simp only [Bool.and_eq_true, beq_iff_eq] at h
    obtain ⟨h1, rfl⟩ := h
    exact ⟨cs, t, e, h1⟩
  · cases h
theorem row_set {n : Nat} {w : World} {b : Nat} (c : Array Value) (h : plain n w b = true) : row (w.setRow b c) b = c := by
  obtain ⟨cs, t, e, _⟩ := plain_of h
  unfold row; rw [setRow_heap w b cs c t _ e]
theorem row_of {n : Nat} {w : World} {b : Nat} {cs : Array Value} (h : row w b = cs) (hs : cs.size = n + 1) : ∃ t fr, w.heap[b]? = some (.cells cs t fr) := by
  unfold row at h
  split at h
  · rename_i cs' t fr e
    subst h; exact ⟨t, fr, e⟩
  · subst h; cases hs
/-- A cell of a row. -/
theorem cell_row {n : Nat} (w : World) (b o : Nat) (h : (row w b).size = n + 1) : w.cell? ⟨b, o, none⟩ = (row w b)[o]? := by
  obtain ⟨t, fr, e⟩ := row_of rfl h
  exact cell_of_row w b o _ t fr e
section
variable {P : Program} {T : TypeId} {n : Nat} {d : TypeDesc}
theorem run_load {w : World} {v : Value} (hu : P.underlying T = some d) (hd : (match d with | .struct _ | .array _ _ => true | _ => false) = true) (hi : (P.info? T).map (·.size) = some (n + 1)) (h : (rowOf w v).size = n + 1) : (Instr.loadAt T v).run P w = .ok (.agg (rowOf w v)) w := by
  unfold rowOf at h
  split at h
  · rename_i b
    obtain ⟨t, fr, e⟩ := row_of rfl h
    simp only [Instr.loadAt, Instr.sureAddr, Sem.run_bind, Sem.run_pure, Result.andThen]
    rw [rowOf_at]
    exact run_loadVar_row w b t _ _ fr _ e hu hd (by rw [h]; exact hi)
  · cases h
theorem run_store {w : World} {p : Value} {cs : Array Value} (hi : (P.info? T).map (·.size) = some (n + 1)) (h : plainAt (n + 1) w p = true) (hs : cs.size = n + 1) (h1 : cs.all (·.oneCell') = true) : (Instr.storeAt T p (.agg cs)).run P w = .ok () (putRow w p cs) := by
  unfold plainAt at h
  split at h
  · rename_i b
    obtain ⟨old, t, e, ho⟩ := plain_of h
    simp only [Instr.storeAt, Instr.sureAddr, Sem.run_bind, Sem.run_pure, Result.andThen]
    exact run_storeVar_row w b t _ old cs e (by rw [hs]; exact hi) (by rw [ho, hs]) h1
  · cases h
/-- What lies in a result's variable, as it is read at a return. -/
theorem read_cell {w : World} {v : Value} {cs : Array Value} (hu : P.underlying T = some d) (hd : (match d with | .struct _ | .array _ _ => true | _ => false) = true) (hi : (P.info? T).map (·.size) = some (n + 1)) (hr : rowOf w v = cs) (hs : cs.size = n + 1) : ∃ b, v = .pointer (some ⟨b, 0, none⟩) ∧ (loadVar T ⟨b, 0, none⟩).run P w = .ok (.agg cs) w := by
  have h7 : (rowOf w v).size = n + 1 := by rw [hr]; exact hs
  unfold rowOf at h7 hr
  split at h7
  · rename_i b
    obtain ⟨t, fr, e2⟩ := row_of hr hs
    exact ⟨b, rfl, run_loadVar_row w b t _ _ fr _ e2 hu hd (by rw [hs]; exact hi)⟩
  · cases h7
theorem ret1 {fn : Func} {p : Tmp} (h : fn.results = #[.cell p T]) (hu : P.underlying T = some d) (hd : (match d with | .struct _ | .array _ _ => true | _ => false) = true) (hi : (P.info? T).map (·.size) = some (n + 1)) (tmps : Array Value) (w : World) {cs : Array Value} (hs : cs.size = n + 1) (hr : rowOf w (tmps.getD p undef) = cs) : (results fn tmps).run P w = .ok (.agg cs) w := by
  obtain ⟨b, e, hl⟩ := read_cell hu hd hi hr hs
  have hp' : tmps[p]?.getD undef = .pointer (some ⟨b, 0, none⟩) := by simpa using e
  simp [results, h, hp', asAddr, hl]
theorem ret3 {fn : Func} {p q r : Tmp} (h : fn.results = #[.cell p T, .tmp q, .tmp r]) (hu : P.underlying T = some d) (hd : (match d with | .struct _ | .array _ _ => true | _ => false) = true) (hi : (P.info? T).map (·.size) = some (n + 1)) (tmps : Array Value) (w : World) {cs : Array Value} (hs : cs.size = n + 1) (hr : rowOf w (tmps.getD p undef) = cs) : (results fn tmps).run P w = .ok (.tuple #[.agg cs, tmps.getD q undef, tmps.getD r undef]) w := by
  obtain ⟨b, e, hl⟩ := read_cell hu hd hi hr hs
  have hp' : tmps[p]?.getD undef = .pointer (some ⟨b, 0, none⟩) := by simpa using e
  simp [results, h, hp', asAddr, hl]
theorem ret2 {fn : Func} {p q : Tmp} (h : fn.results = #[.cell p T, .tmp q]) (hu : P.underlying T = some d) (hd : (match d with | .struct _ | .array _ _ => true | _ => false) = true) (hi : (P.info? T).map (·.size) = some (n + 1)) (tmps : Array Value) (w : World) {cs : Array Value} (hs : cs.size = n + 1) (hr : rowOf w (tmps.getD p undef) = cs) : (results fn tmps).run P w = .ok (.tuple #[.agg cs, tmps.getD q undef]) w := by
  obtain ⟨b, e, hl⟩ := read_cell hu hd hi hr hs
  have hp' : tmps[p]?.getD undef = .pointer (some ⟨b, 0, none⟩) := by simpa using e
  simp [results, h, hp', asAddr, hl]
/-- A result that is no cell, then one that is, then one that is none. -/
theorem retM {fn : Func} {p q r : Tmp} (h : fn.results = #[.tmp q, .cell p T, .tmp r]) (hu : P.underlying T = some d) (hd : (match d with | .struct _ | .array _ _ => true | _ => false) = true) (hi : (P.info? T).map (·.size) = some (n + 1)) (tmps : Array Value) (w : World) {cs : Array Value} (hs : cs.size = n + 1) (hr : rowOf w (tmps.getD p undef) = cs) : (results fn tmps).run P w = .ok (.tuple #[tmps.getD q undef, .agg cs, tmps.getD r undef]) w := by
  obtain ⟨b, e, hl⟩ := read_cell hu hd hi hr hs
  have hp' : tmps[p]?.getD undef = .pointer (some ⟨b, 0, none⟩) := by simpa using e
  simp [results, h, hp', asAddr, hl]
section
variable (ρ : Operand → Value) (dst : Option Tmp) (ty : TypeId) (pos : String) (after : Array Edge) (guard : Option (Nat × Bool)) (w : World)
theorem exec_load (hu : P.underlying T = some d) (hd : (match d with | .struct _ | .array _ _ => true | _ => false) = true) (hi : (P.info? T).map (·.size) = some (n + 1)) (x : Operand) (h : (rowOf w (ρ x)).size = n + 1) :
    (execOp ρ { dst, op := .load T x, type := ty, pos, after, guard }).run P w = .ok (.value (.agg (rowOf w (ρ x)))) w := by
  simp [execOp, run_load hu hd hi h]
theorem exec_store (hi : (P.info? T).map (·.size) = some (n + 1)) (p x : Operand) (h : plainAt (n + 1) w (ρ p) = true) (hs : (ρ x).cells.size = n + 1) (h1 : oneAll (ρ x) = true) (ha : ρ x = .agg (ρ x).cells) :
    (execOp ρ { dst, op := .store T p x, type := ty, pos, after, guard }).run P w = .ok .skip (putRow w (ρ p) (ρ x).cells) := by
  have := run_store (cs := (ρ x).cells) hi h hs h1
  rw [← ha] at this
  simp [execOp, this]
theorem exec_alloc {z : Array Value} (hz : ∀ w, (zeroValue T).run P w = .ok (.agg z) w) : (execOp ρ { dst, op := .alloc T, type := ty, pos, after, guard }).run P w = .ok (.value (.pointer (some ⟨w.heap.size, 0, none⟩))) (w.alloc (.cells z T)) := by
  have hn : (newVar T (.agg z)).run P w = .ok ⟨w.heap.size, 0, none⟩ (w.alloc (.cells z T)) := rfl
  simp only [execOp, Instr.alloc, Sem.run_bind, hz w, hn, Result.andThen, Sem.run_pure]
end
end
attribute [go_sem] rowOf_at plainAt_at putRow_at row_new row_past row_drew plain_new plain_past plain_drew setRow_new setRow_past setRow_drew
@[go_sem] theorem lt2 (n : Nat) : n < n + 1 + 1 := by omega
@[go_sem] theorem lt3 (n : Nat) : n < n + 1 + 1 + 1 := by omega
@[go_sem] theorem lt4 (n : Nat) : n < n + 1 + 1 + 1 + 1 := by omega
@[go_sem] theorem lt5 (n : Nat) : n < n + 1 + 1 + 1 + 1 + 1 := by omega
@[go_sem] theorem cast_nonneg (k : Nat) : (0 : Int) ≤ (k : Int) := Int.natCast_nonneg k
theorem bcell {W w1 : World} (hb : Below W.heap.size W w1) : (∀ b o, b < W.heap.size → w1.cell? ⟨b, o, none⟩ = W.cell? ⟨b, o, none⟩) ∧ (∀ b o, b < W.heap.size → w1.frozen? ⟨b, o, none⟩ = W.frozen? ⟨b, o, none⟩) ∧
    (∀ b, b < W.heap.size → row w1 b = row W b) ∧ (∀ n b, b < W.heap.size → plain n w1 b = plain n W b) :=
  ⟨fun b o h => hb.cell (p := ⟨b, o, none⟩) h, fun b o h => hb.frozen (p := ⟨b, o, none⟩) h, fun b h => by unfold row; rw [hb.block b h], fun n b h => by unfold plain; rw [hb.block b h]⟩
theorem below_setRow {B : Nat} {a w : World} (h : Below B a w) {p : Nat} (hp : B ≤ p) (c : Array Value) : Below B a (w.setRow p c) :=
  h.trans ⟨rfl, rfl, rfl, by simp, fun k hk => setRow_other w p k c (by omega)⟩
theorem setRow_size (w : World) (b : Nat) (c : Array Value) : (w.setRow b c).heap.size = w.heap.size := by simp [World.setRow]
theorem below1 (w : World) (o : Obj) : Below w.heap.size w (w.alloc o) := (Below.refl _ _).alloc (Nat.le_refl _) _
theorem below2 (w : World) (o p : Obj) : Below w.heap.size w ((w.alloc o).alloc p) := nx (below1 _ _) (below1 _ _)
theorem below3 (w : World) (o p q : Obj) : Below w.heap.size w (((w.alloc o).alloc p).alloc q) := nx (below2 _ _ _) (below1 _ _)
theorem below4 (w : World) (o p q r : Obj) : Below w.heap.size w ((((w.alloc o).alloc p).alloc q).alloc r) := nx (below3 _ _ _ _) (below1 _ _)
end Go.Proofs.Ytmaecknjamnnpaa.Rw
