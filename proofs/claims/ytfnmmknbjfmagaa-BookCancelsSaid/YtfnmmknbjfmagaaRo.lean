/- A struct or an array that lies in a block of its own, read, written and made as a whole, whatever its cells are. Of no program. -/
import Derived.WalkKit
import Derived.ProofKit
import Derived.Below
import Derived.BigQuiet
import Derived.WalkLawsBesides
import Derived.WalkSpells
import Derived.IntWalk
import Derived.Laws.Rows
import Derived.Laws.StructEq
import Derived.Deep.WholeRow
import Derived.Laws.AppendOwn
import Derived.Laws.OwnMore
import Derived.Laws.CopyOwn
import Derived.Laws.MakeOwn
import Derived.Lib.SliceRun
import Derived.Sort.Row
namespace Go.Proofs.Ytfnmmknbjfmagaa.Rw
open Go.RowKit
set_option linter.unusedVariables false
theorem nx {a b c : World} (h : Below a.heap.size a b) (k : Below b.heap.size b c) : Below a.heap.size a c := h.trans (k.mono h.size)
/-- The cells of block b. -/
def row (w : World) (b : Nat) : Array Value := match w.heap[b]? with | some (.cells cs _ _) => cs | _ => #[]
/-- Block b is a row of n cells that may be written. -/
def plain (n : Nat) (w : World) (b : Nat) : Bool := match w.heap[b]? with | some (.cells cs _ fr) => cs.size == n && fr == (0, 0) | _ => false
def rowOf (w : World) : Value → Array Value
  | .pointer (some ⟨b, 0, none⟩) => row w b
  | _ => #[]
def plainAt (n : Nat) (w : World) : Value → Bool
  | .pointer (some ⟨b, 0, none⟩) => plain n w b
  | _ => false
def putRow (w : World) : Value → Array Value → World
  | .pointer (some ⟨b, 0, none⟩), cs => w.setRow b cs
  | _, _ => w
def oneAll (v : Value) : Bool := v.cells.all (·.oneCell')
theorem rowOf_at (w : World) (b : Nat) : rowOf w (.pointer (some ⟨b, 0, none⟩)) = row w b := rfl
theorem plainAt_at (n : Nat) (w : World) (b : Nat) : plainAt n w (.pointer (some ⟨b, 0, none⟩)) = plain n w b := rfl
theorem putRow_at (w : World) (b : Nat) (cs : Array Value) : putRow w (.pointer (some ⟨b, 0, none⟩)) cs = w.setRow b cs := rfl
theorem row_new (w : World) (c : Array Value) (t : TypeId) (n : Nat) (h : n = w.heap.size) : row (w.alloc (.cells c t)) n = c := by
  subst h; unfold row; rw [heap_alloc_new]
theorem row_past (w : World) (o : Obj) (n : Nat) (h : n < w.heap.size) : row (w.alloc o) n = row w n := by
  unfold row; rw [Below.heap_alloc w o n h]
theorem row_drew (w : World) (n : Nat) : row w.drew n = row w n := rfl
theorem plain_new (m : Nat) (w : World) (c : Array Value) (t : TypeId) (n : Nat) (h : n = w.heap.size) : plain m (w.alloc (.cells c t)) n = (c.size == m) := by
  subst h; unfold plain; rw [heap_alloc_new]; simp
theorem plain_past (m : Nat) (w : World) (o : Obj) (n : Nat) (h : n < w.heap.size) : plain m (w.alloc o) n = plain m w n := by
  unfold plain; rw [Below.heap_alloc w o n h]
theorem plain_drew (m : Nat) (w : World) (n : Nat) : plain m w.drew n = plain m w n := rfl
theorem setRow_new (w : World) (c c' : Array Value) (t : TypeId) (n : Nat) (h : n = w.heap.size) : (w.alloc (.cells c t)).setRow n c' = w.alloc (.cells c' t) := by
  subst h; exact World.setRow_alloc_new w c c' t
theorem setRow_drew (w : World) (n : Nat) (c : Array Value) : w.drew.setRow n c = (w.setRow n c).drew := rfl
theorem setRow_past (w : World) (o : Obj) (n : Nat) (c : Array Value) (h : n < w.heap.size) : (w.alloc o).setRow n c = (w.setRow n c).alloc o := by
  simp only [World.setRow, World.alloc]
  congr 1
  apply Array.ext_getElem?
  intro k
  simp only [Array.getElem?_modify, Array.getElem?_push, Array.size_modify]
  by_cases hk : k = w.heap.size
  · subst hk
    simp [Nat.ne_of_lt h]
  · simp [hk]
theorem plain_of {n : Nat} {w : World} {b : Nat} (h : plain n w b = true) : ∃ cs t, w.heap[b]? = some (.cells cs t (0, 0)) ∧ cs.size = n := by
  unfold plain at h
  split at h
  · rename_i cs t fr e
    simp only [Bool.and_eq_true, beq_iff_eq] at h
    obtain ⟨h1, rfl⟩ := h
    exact ⟨cs, t, e, h1⟩
  · cases h
theorem row_set {n : Nat} {w : World} {b : Nat} (c : Array Value) (h : plain n w b = true) : row (w.setRow b c) b = c := by
  obtain ⟨cs, t, e, _⟩ := plain_of h
  unfold row; rw [setRow_heap w b cs c t _ e]
theorem row_of {n : Nat} {w : World} {b : Nat} {cs : Array Value} (h : row w b = cs) (hs : cs.size = n + 1) : ∃ t fr, w.heap[b]? = some (.cells cs t fr) := by
  unfold row at h
  split at h
  · rename_i cs' t fr e
    subst h; exact ⟨t, fr, e⟩
  · subst h; cases hs
/-- A cell of a row. -/
theorem cell_row {n : Nat} (w : World) (b o : Nat) (h : (row w b).size = n + 1) : w.cell? ⟨b, o, none⟩ = (row w b)[o]? := by
  obtain ⟨t, fr, e⟩ := row_of rfl h
  exact cell_of_row w b o _ t fr e
section
variable {P : Program} {T : TypeId} {n : Nat} {d : TypeDesc}
theorem run_load {w : World} {v : Value} (hu : P.underlying T = some d) (hd : (match d with | .struct _ | .array _ _ => true | _ => false) = true) (hi : (P.info? T).map (·.size) = some (n + 1)) (h : (rowOf w v).size = n + 1) : (Instr.loadAt T v).run P w = .ok (.agg (rowOf w v)) w := by
  unfold rowOf at h
  split at h
  · rename_i b
    obtain ⟨t, fr, e⟩ := row_of rfl h
    simp only [Instr.loadAt, Instr.sureAddr, Sem.run_bind, Sem.run_pure, Result.andThen]
    rw [rowOf_at]
    exact run_loadVar_row w b t _ _ fr _ e hu hd (by rw [h]; exact hi)
  · cases h
theorem run_store {w : World} {p : Value} {cs : Array Value} (hi : (P.info? T).map (·.size) = some (n + 1)) (h : plainAt (n + 1) w p = true) (hs : cs.size = n + 1) (h1 : cs.all (·.oneCell') = true) : (Instr.storeAt T p (.agg cs)).run P w = .ok () (putRow w p cs) := by
  unfold plainAt at h
  split at h
  · rename_i b
    obtain ⟨old, t, e, ho⟩ := plain_of h
    simp only [Instr.storeAt, Instr.sureAddr, Sem.run_bind, Sem.run_pure, Result.andThen]
    exact run_storeVar_row w b t _ old cs e (by rw [hs]; exact hi) (by rw [ho, hs]) h1
  · cases h
/-- What lies in a result's variable, as it is read at a return. -/
theorem read_cell {w : World} {v : Value} {cs : Array Value} (hu : P.underlying T = some d) (hd : (match d with | .struct _ | .array _ _ => true | _ => false) = true) (hi : (P.info? T).map (·.size) = some (n + 1)) (hr : rowOf w v = cs) (hs : cs.size = n + 1) : ∃ b, v = .pointer (some ⟨b, 0, none⟩) ∧ (loadVar T ⟨b, 0, none⟩).run P w = .ok (.agg cs) w := by
  have h7 : (rowOf w v).size = n + 1 := by rw [hr]; exact hs
  unfold rowOf at h7 hr
  split at h7
  · rename_i b
    obtain ⟨t, fr, e2⟩ := row_of hr hs
    exact ⟨b, rfl, run_loadVar_row w b t _ _ fr _ e2 hu hd (by rw [hs]; exact hi)⟩
  · cases h7
theorem ret1 {fn : Func} {p : Tmp} (h : fn.results = #[.cell p T]) (hu : P.underlying T = some d) (hd : (match d with | .struct _ | .array _ _ => true | _ => false) = true) (hi : (P.info? T).map (·.size) = some (n + 1)) (tmps : Array Value) (w : World) {cs : Array Value} (hs : cs.size = n + 1) (hr : rowOf w (tmps.getD p undef) = cs) : (results fn tmps).run P w = .ok (.agg cs) w := by
  obtain ⟨b, e, hl⟩ := read_cell hu hd hi hr hs
  have hp' : tmps[p]?.getD undef = .pointer (some ⟨b, 0, none⟩) := by simpa using e
  simp [results, h, hp', asAddr, hl]
theorem ret3 {fn : Func} {p q r : Tmp} (h : fn.results = #[.cell p T, .tmp q, .tmp r]) (hu : P.underlying T = some d) (hd : (match d with | .struct _ | .array _ _ => true | _ => false) = true) (hi : (P.info? T).map (·.size) = some (n + 1)) (tmps : Array Value) (w : World) {cs : Array Value} (hs : cs.size = n + 1) (hr : rowOf w (tmps.getD p undef) = cs) : (results fn tmps).run P w = .ok (.tuple #[.agg cs, tmps.getD q undef, tmps.getD r undef]) w := by
  obtain ⟨b, e, hl⟩ := read_cell hu hd hi hr hs
  have hp' : tmps[p]?.getD undef = .pointer (some ⟨b, 0, none⟩) := by simpa using e
  simp [results, h, hp', asAddr, hl]
theorem ret2 {fn : Func} {p q : Tmp} (h : fn.results = #[.cell p T, .tmp q]) (hu : P.underlying T = some d) (hd : (match d with | .struct _ | .array _ _ => true | _ => false) = true) (hi : (P.info? T).map (·.size) = some (n + 1)) (tmps : Array Value) (w : World) {cs : Array Value} (hs : cs.size = n + 1) (hr : rowOf w (tmps.getD p undef) = cs) : (results fn tmps).run P w = .ok (.tuple #[.agg cs, tmps.getD q undef]) w := by
  obtain ⟨b, e, hl⟩ := read_cell hu hd hi hr hs
  have hp' : tmps[p]?.getD undef = .pointer (some ⟨b, 0, none⟩) := by simpa using e
  simp [results, h, hp', asAddr, hl]
/-- A result that is no cell, then one that is, then one that is none. -/
theorem retM {fn : Func} {p q r : Tmp} (h : fn.results = #[.tmp q, .cell p T, .tmp r]) (hu : P.underlying T = some d) (hd : (match d with | .struct _ | .array _ _ => true | _ => false) = true) (hi : (P.info? T).map (·.size) = some (n + 1)) (tmps : Array Value) (w : World) {cs : Array Value} (hs : cs.size = n + 1) (hr : rowOf w (tmps.getD p undef) = cs) : (results fn tmps).run P w = .ok (.tuple #[tmps.getD q undef, .agg cs, tmps.getD r undef]) w := by
  obtain ⟨b, e, hl⟩ := read_cell hu hd hi hr hs
  have hp' : tmps[p]?.getD undef = .pointer (some ⟨b, 0, none⟩) := by simpa using e
  simp [results, h, hp', asAddr, hl]
section
variable (ρ : Operand → Value) (dst : Option Tmp) (ty : TypeId) (pos : String) (after : Array Edge) (guard : Option (Nat × Bool)) (w : World)
theorem exec_load (hu : P.underlying T = some d) (hd : (match d with | .struct _ | .array _ _ => true | _ => false) = true) (hi : (P.info? T).map (·.size) = some (n + 1)) (x : Operand) (h : (rowOf w (ρ x)).size = n + 1) :
    (execOp ρ { dst, op := .load T x, type := ty, pos, after, guard }).run P w = .ok (.value (.agg (rowOf w (ρ x)))) w := by
  simp [execOp, run_load hu hd hi h]
theorem exec_store (hi : (P.info? T).map (·.size) = some (n + 1)) (p x : Operand) (h : plainAt (n + 1) w (ρ p) = true) (hs : (ρ x).cells.size = n + 1) (h1 : oneAll (ρ x) = true) (ha : ρ x = .agg (ρ x).cells) :
    (execOp ρ { dst, op := .store T p x, type := ty, pos, after, guard }).run P w = .ok .skip (putRow w (ρ p) (ρ x).cells) := by
  have := run_store (cs := (ρ x).cells) hi h hs h1
  rw [← ha] at this
  simp [execOp, this]
theorem exec_alloc {z : Array Value} (hz : ∀ w, (zeroValue T).run P w = .ok (.agg z) w) : (execOp ρ { dst, op := .alloc T, type := ty, pos, after, guard }).run P w = .ok (.value (.pointer (some ⟨w.heap.size, 0, none⟩))) (w.alloc (.cells z T)) := by
  have hn : (newVar T (.agg z)).run P w = .ok ⟨w.heap.size, 0, none⟩ (w.alloc (.cells z T)) := rfl
  simp only [execOp, Instr.alloc, Sem.run_bind, hz w, hn, Result.andThen, Sem.run_pure]
end
end
attribute [go_sem] rowOf_at plainAt_at putRow_at row_new row_past row_drew plain_new plain_past plain_drew setRow_new setRow_past setRow_drew
@[go_sem] theorem lt2 (n : Nat) : n < n + 1 + 1 := by omega
@[go_sem] theorem lt3 (n : Nat) : n < n + 1 + 1 + 1 := by omega
@[go_sem] theorem lt4 (n : Nat) : n < n + 1 + 1 + 1 + 1 := by omega
@[go_sem] theorem lt5 (n : Nat) : n < n + 1 + 1 + 1 + 1 + 1 := by omega
@[go_sem] theorem cast_nonneg (k : Nat) : (0 : Int) ≤ (k : Int) := Int.natCast_nonneg k
theorem bcell {W w1 : World} (hb : Below W.heap.size W w1) : (∀ b o, b < W.heap.size → w1.cell? ⟨b, o, none⟩ = W.cell? ⟨b, o, none⟩) ∧ (∀ b o, b < W.heap.size → w1.frozen? ⟨b, o, none⟩ = W.frozen? ⟨b, o, none⟩) ∧
    (∀ b, b < W.heap.size → row w1 b = row W b) ∧ (∀ n b, b < W.heap.size → plain n w1 b = plain n W b) :=
  ⟨fun b o h => hb.cell (p := ⟨b, o, none⟩) h, fun b o h => hb.frozen (p := ⟨b, o, none⟩) h, fun b h => by unfold row; rw [hb.block b h], fun n b h => by unfold plain; rw [hb.block b h]⟩
theorem below_setRow {B : Nat} {a w : World} (h : Below B a w) {p : Nat} (hp : B ≤ p) (c : Array Value) : Below B a (w.setRow p c) :=
  h.trans ⟨rfl, rfl, rfl, by simp, fun k hk => setRow_other w p k c (by omega)⟩
theorem setRow_size (w : World) (b : Nat) (c : Array Value) : (w.setRow b c).heap.size = w.heap.size := by simp [World.setRow]
theorem below1 (w : World) (o : Obj) : Below w.heap.size w (w.alloc o) := (Below.refl _ _).alloc (Nat.le_refl _) _
theorem below2 (w : World) (o p : Obj) : Below w.heap.size w ((w.alloc o).alloc p) := nx (below1 _ _) (below1 _ _)
theorem below3 (w : World) (o p q : Obj) : Below w.heap.size w (((w.alloc o).alloc p).alloc q) := nx (below2 _ _ _) (below1 _ _)
theorem below4 (w : World) (o p q r : Obj) : Below w.heap.size w ((((w.alloc o).alloc p).alloc q).alloc r) := nx (below3 _ _ _ _) (below1 _ _)
end Go.Proofs.Ytfnmmknbjfmagaa.Rw
/- Data in memory, nested as they may be: what a value's cells say. Of no program. -/
namespace Go.Proofs.Ytfnmmknbjfmagaa.Da
open Go.RowKit
set_option linter.unusedVariables false
open Go.Proofs.Ytfnmmknbjfmagaa.Rw (nx)
/-- Where data may lie: below lo, or in cells of their types, but not in the blocks ex (variables that are still written). -/
structure Bs where
  lo : Nat
  ex : Nat → Prop
/-- Blocks from n on are free for new data. -/
def Bs.le (B : Bs) (n : Nat) : Prop := B.lo ≤ n ∧ ∀ b, B.ex b → b < n
theorem Bs.le.mono {B : Bs} {n m : Nat} (h : B.le n) (k : n ≤ m) : B.le m := ⟨Nat.le_trans h.1 k, fun b hb => Nat.lt_of_lt_of_le (h.2 b hb) k⟩
def Bs.of (n : Nat) : Bs := ⟨n, fun _ => False⟩
theorem Bs.of_le (n : Nat) : (Bs.of n).le n := ⟨Nat.le_refl n, fun _ h => h.elim⟩
/-- The same, but for these blocks too. -/
def Bs.but (B : Bs) (X : Nat → Prop) : Bs := ⟨B.lo, fun b => B.ex b ∨ X b⟩
theorem Bs.but_le {B : Bs} {X : Nat → Prop} {n : Nat} (h : B.le n) (hX : ∀ b, X b → b < n) : (B.but X).le n := ⟨h.1, fun b hb => hb.elim (h.2 b) (hX b)⟩
/-- B allows what A allows. -/
def Bs.sub (A B : Bs) : Prop := A.lo ≤ B.lo ∧ ∀ b, B.ex b → A.ex b ∨ b < A.lo
theorem Bs.sub_but (B : Bs) (X : Nat → Prop) : (B.but X).sub B := ⟨Nat.le_refl _, fun b hb => .inl (.inl hb)⟩
theorem Bs.sub_of {B : Bs} {n : Nat} (h : B.le n) : B.sub (Bs.of n) := ⟨h.1, fun _ h => h.elim⟩
/-- What lies where B lets it, and cells of the types ts, lie as they lay. -/
structure Keeps (B : Bs) (ts : List TypeId) (w w' : World) : Prop where
  size : w.heap.size ≤ w'.heap.size
  block : ∀ b o, w.heap[b]? = some o → (b < B.lo ∨ ∃ cur t fr, o = .cells cur t fr ∧ t ∈ ts ∧ ¬ B.ex b) → w'.heap[b]? = some o
theorem Keeps.refl (B : Bs) (ts : List TypeId) (w : World) : Keeps B ts w w := ⟨Nat.le_refl _, fun _ _ h _ => h⟩
theorem Keeps.trans {B : Bs} {ts : List TypeId} {a b c : World} (h : Keeps B ts a b) (k : Keeps B ts b c) : Keeps B ts a c :=
  ⟨Nat.le_trans h.size k.size, fun i o hi ho => k.block i o (h.block i o hi ho) ho⟩
theorem Keeps.of_below {B : Bs} {ts : List TypeId} {w w' : World} (h : Below w.heap.size w w') : Keeps B ts w w' :=
  ⟨h.size, fun b o hb _ => (h.block b (Array.getElem?_eq_some_iff.1 hb).1).trans hb⟩
theorem Keeps.less {B : Bs} {ts ts' : List TypeId} {w w' : World} (h : Keeps B ts w w') (hs : ∀ t ∈ ts', t ∈ ts) : Keeps B ts' w w' :=
  ⟨h.size, fun b o hb ho => h.block b o hb (ho.imp id fun ⟨cur, t, fr, e, ht, hx⟩ => ⟨cur, t, fr, e, hs t ht, hx⟩)⟩
theorem Keeps.low {B B' : Bs} {ts : List TypeId} {w w' : World} (h : Keeps B' ts w w') (hB : B.sub B') : Keeps B ts w w' :=
  ⟨h.size, fun b o hb ho => h.block b o hb (by
    rcases ho with ho | ⟨cur, t, fr, e, ht, hx⟩
    · exact .inl (Nat.lt_of_lt_of_le ho hB.1)
    · by_cases hl : b < B'.lo
      · exact .inl hl
      · exact .inr ⟨cur, t, fr, e, ht, fun hb' => (hB.2 b hb').elim hx (fun h => hl (Nat.lt_of_lt_of_le h hB.1))⟩)⟩
/-- Behind an append to a row of cells of another type. -/
theorem Keeps.grown {B : Bs} {Bo : Nat} {ts : List TypeId} {T : TypeId} {k n : Nat} {v : Value} {xs : List Value} {w w' : World} (hr : w.ownsRow Bo T k v n xs) (hB : B.le Bo) (hT : T ∉ ts) (hg : w.grownBy w' v.ownBlock) : Keeps B ts w w' := by
  refine ⟨hg.size, fun b o hb ho => (hg.block b (Array.getElem?_eq_some_iff.1 hb).1 fun e => ?_).trans hb⟩
  rcases hr.2 with ⟨rfl, _⟩ | ⟨g, cap, cur, rfl, hbase, hgb, _⟩
  · simp [Value.ownBlock] at e
  · obtain rfl : b = g := by simpa [Value.ownBlock] using e
    rw [hgb] at hb
    rcases ho with ho | ⟨cur', t, fr, rfl, ht, _⟩
    · have := hB.1; omega
    · simp at hb
      exact hT (hb.2.1 ▸ ht)
theorem grown_refl (w : World) (ob : Option Nat) : w.grownBy w ob := ⟨rfl, rfl, rfl, Nat.le_refl _, fun _ _ _ => rfl⟩
theorem grown_drew (w : World) (ob : Option Nat) : w.grownBy w.drew ob := ⟨rfl, rfl, rfl, Nat.le_refl _, fun _ _ _ => rfl⟩
theorem grown_trans {a b c : World} {ob : Option Nat} (h : a.grownBy b ob) (k : b.grownBy c ob) : a.grownBy c ob :=
  ⟨k.os.trans h.os, k.tape.trans h.tape, k.output.trans h.output, Nat.le_trans h.size k.size, fun i hi hne => (k.block i (Nat.lt_of_lt_of_le hi h.size) hne).trans (h.block i hi hne)⟩
theorem grown_below {w w' : World} (ob : Option Nat) (h : Below w.heap.size w w') : w.grownBy w' ob := ⟨h.os, h.tape, h.output, h.size, fun i hi _ => h.block i hi⟩
theorem grown_stays (W : World) (ob : Option Nat) (u u' : World) (h : W.grownBy u ob) (k : Below u.heap.size u u') : W.grownBy u' ob := grown_trans h (grown_below ob k)
theorem grown_cell {w w' : World} {ob : Option Nat} (h : w.grownBy w' ob) {b o : Nat} (hb : b < w.heap.size) (hne : some b ≠ ob) : w'.cell? ⟨b, o, none⟩ = w.cell? ⟨b, o, none⟩ := World.cell?_of_block (w := w) (h.block b hb hne)
/-- All that lay lies as it lay, but for the blocks X. -/
structure Alt (X : Nat → Prop) (w w' : World) : Prop where
  os : w'.os = w.os
  tape : w'.tape = w.tape
  output : w'.output = w.output
  size : w.heap.size ≤ w'.heap.size
  block : ∀ b, b < w.heap.size → ¬ X b → w'.heap[b]? = w.heap[b]?
theorem Alt.refl (X : Nat → Prop) (w : World) : Alt X w w := ⟨rfl, rfl, rfl, Nat.le_refl _, fun _ _ _ => rfl⟩
theorem Alt.trans {X : Nat → Prop} {a b c : World} (h : Alt X a b) (k : Alt X b c) : Alt X a c :=
  ⟨k.os.trans h.os, k.tape.trans h.tape, k.output.trans h.output, Nat.le_trans h.size k.size, fun i hi hx => (k.block i (Nat.lt_of_lt_of_le hi h.size) hx).trans (h.block i hi hx)⟩
theorem Alt.of_below {X : Nat → Prop} {w w' : World} (h : Below w.heap.size w w') : Alt X w w' := ⟨h.os, h.tape, h.output, h.size, fun b hb _ => h.block b hb⟩
theorem Alt.below {X : Nat → Prop} {a w w' : World} {n : Nat} (h : Below n a w) (k : Alt X w w') (hn : n ≤ w.heap.size) (hX : ∀ b, X b → n ≤ b) : Below n a w' :=
  ⟨k.os.trans h.os, k.tape.trans h.tape, k.output.trans h.output, Nat.le_trans h.size k.size, fun b hb => (k.block b (Nat.lt_of_lt_of_le hb hn) fun hx => by have := hX b hx; omega).trans (h.block b hb)⟩
theorem Alt.grown {X : Nat → Prop} {a w w' : World} {ob : Option Nat} (h : Alt X a w) (hg : w.grownBy w' ob) (ho : ∀ k, ob = some k → a.heap.size ≤ k) : Alt X a w' :=
  ⟨hg.os.trans h.os, hg.tape.trans h.tape, hg.output.trans h.output, Nat.le_trans h.size hg.size, fun b hb hx => (hg.block b (Nat.lt_of_lt_of_le hb h.size) fun e => by have := ho b e.symm; omega).trans (h.block b hb hx)⟩
theorem grown_block {w w' : World} {ob : Option Nat} (hg : w.grownBy w' ob) {b : Nat} (hb : b < w.heap.size) (ho : ∀ k, ob = some k → b ≠ k) : w'.heap[b]? = w.heap[b]? := hg.block b hb fun e => ho b e.symm rfl
theorem Keeps.of_alt {B : Bs} {ts : List TypeId} {X : Nat → Prop} {w w' : World} (h : Alt X w w') (hX : ∀ b, X b → b < w.heap.size → B.ex b ∧ B.lo ≤ b) : Keeps B ts w w' :=
  ⟨h.size, fun b o hb ho => (h.block b (Array.getElem?_eq_some_iff.1 hb).1 fun hx => by
    have h1 := hX b hx (Array.getElem?_eq_some_iff.1 hb).1
    rcases ho with ho | ⟨_, _, _, _, _, hn⟩
    · omega
    · exact hn h1.1).trans hb⟩
/-- How data of a kind lie in k cells. -/
structure Enc (α : Type) where
  k : Nat
  ts : List TypeId
  R : Bs → α → List Value → World → Prop
  len : ∀ {B x cs w}, R B x cs w → cs.length = k
  one : ∀ {B x cs w}, R B x cs w → ∀ u ∈ cs, u.oneCell' = true
  keep : ∀ {B x cs w w'}, R B x cs w → Keeps B ts w w' → R B x cs w'
  up : ∀ {A B x cs w}, A.sub B → R A x cs w → R B x cs w
  now : ∀ {B x cs w X}, R B x cs w → (∀ b, X b → w.heap.size ≤ b) → R (B.but X) x cs w
theorem Enc.stays {α : Type} (e : Enc α) {B : Bs} {x : α} {cs : List Value} {w w' : World} (h : e.R B x cs w) (hb : Below w.heap.size w w') : e.R B x cs w' := e.keep h (Keeps.of_below hb)
/-- Cells that say it by themselves. -/
def Enc.flat {α : Type} (k : Nat) (f : α → List Value) (hl : ∀ x, (f x).length = k) (h1 : ∀ x, ∀ u ∈ f x, u.oneCell' = true) : Enc α where
  k := k
  ts := []
  R := fun _ x cs _ => cs = f x
  len := fun h => by rw [h]; exact hl _
  one := fun h => by rw [h]; exact h1 _
  keep := fun h _ => h
  up := fun _ h => h
  now := fun h _ => h
def Enc.both {α β : Type} (e : Enc α) (f : Enc β) : Enc (α × β) where
  k := e.k + f.k
  ts := e.ts ++ f.ts
  R := fun B x cs w => ∃ c d, cs = c ++ d ∧ e.R B x.1 c w ∧ f.R B x.2 d w
  len := fun ⟨c, d, hc, h1, h2⟩ => by rw [hc, List.length_append, e.len h1, f.len h2]
  one := fun ⟨c, d, hc, h1, h2⟩ u hu => by
    rw [hc] at hu
    rcases List.mem_append.1 hu with hu | hu
    · exact e.one h1 u hu
    · exact f.one h2 u hu
  keep := fun ⟨c, d, hc, h1, h2⟩ hk => ⟨c, d, hc, e.keep h1 (hk.less fun t ht => List.mem_append_left _ ht), f.keep h2 (hk.less fun t ht => List.mem_append_right _ ht)⟩
  up := fun hB ⟨c, d, hc, h1, h2⟩ => ⟨c, d, hc, e.up hB h1, f.up hB h2⟩
  now := fun ⟨c, d, hc, h1, h2⟩ hX => ⟨c, d, hc, e.now h1 hX, f.now h2 hX⟩
section
variable {α : Type} (e : Enc α) (T : TypeId)
/-- From block b, cell off on lie the elements of l. -/
def Lies (B : Bs) (l : List α) (b off : Nat) (w : World) : Prop :=
  b < w.heap.size ∧ (b < B.lo ∨ (∃ cur, w.heap[b]? = some (.cells cur T (0, 0))) ∧ ¬ B.ex b) ∧ ∀ i x, l[i]? = some x → ∃ cs, e.R B x cs w ∧ ∀ j u, cs[j]? = some u → w.cell? ⟨b, off + i * e.k + j, none⟩ = some u
/-- v is a slice that holds l. -/
def Is (B : Bs) (l : List α) (v : Value) (w : World) : Prop := ∃ a c, v = .slice a l.length c ∧ (l = [] ∧ (a = none → c = 0) ∨ ∃ b off, a = some ⟨b, off, none⟩ ∧ Lies e T B l b off w)
theorem Lies.keep {B : Bs} {l : List α} {b off : Nat} {w w' : World} (h : Lies e T B l b off w) (hk : Keeps B (T :: e.ts) w w') : Lies e T B l b off w' := by
  obtain ⟨h1, h2, h3⟩ := h
  have hb : w'.heap[b]? = w.heap[b]? := by
    rw [Array.getElem?_eq_getElem h1]
    refine hk.block b _ (Array.getElem?_eq_getElem h1) (h2.imp id fun ⟨⟨cur, e⟩, hx⟩ => ⟨cur, T, (0, 0), ?_, List.mem_cons_self, hx⟩)
    rw [Array.getElem?_eq_getElem h1] at e
    exact Option.some.inj e
  refine ⟨Nat.lt_of_lt_of_le h1 hk.size, h2.imp id fun ⟨⟨cur, e⟩, hx⟩ => ⟨⟨cur, hb.trans e⟩, hx⟩, fun i x hx => ?_⟩
  obtain ⟨cs, hc, hu⟩ := h3 i x hx
  exact ⟨cs, e.keep hc (hk.less fun t ht => List.mem_cons_of_mem _ ht), fun j u hj => by rw [World.cell?_of_block (w := w) hb]; exact hu j u hj⟩
theorem Is.keep {B : Bs} {l : List α} {v : Value} {w w' : World} (h : Is e T B l v w) (hk : Keeps B (T :: e.ts) w w') : Is e T B l v w' := by
  obtain ⟨a, c, hv, h⟩ := h
  exact ⟨a, c, hv, h.imp id fun ⟨b, off, ha, h⟩ => ⟨b, off, ha, h.keep e T hk⟩⟩
theorem Is.stays {B : Bs} {l : List α} {v : Value} {w w' : World} (h : Is e T B l v w) (hb : Below w.heap.size w w') : Is e T B l v w' := h.keep e T (Keeps.of_below hb)
theorem Lies.up {A B : Bs} {l : List α} {b off : Nat} {w : World} (hB : A.sub B) (h : Lies e T A l b off w) : Lies e T B l b off w := by
  obtain ⟨h1, h2, h3⟩ := h
  refine ⟨h1, ?_, fun i x hx => ?_⟩
  · rcases h2 with h2 | ⟨h2, hx⟩
    · exact .inl (Nat.lt_of_lt_of_le h2 hB.1)
    · by_cases hl : b < B.lo
      · exact .inl hl
      · exact .inr ⟨h2, fun hb => (hB.2 b hb).elim hx (fun h => hl (Nat.lt_of_lt_of_le h hB.1))⟩
  · obtain ⟨cs, hc, hu⟩ := h3 i x hx
    exact ⟨cs, e.up hB hc, hu⟩
theorem Is.up {A B : Bs} {l : List α} {v : Value} {w : World} (hB : A.sub B) (h : Is e T A l v w) : Is e T B l v w := by
  obtain ⟨a, c, hv, h⟩ := h
  exact ⟨a, c, hv, h.imp id fun ⟨b, off, ha, h⟩ => ⟨b, off, ha, h.up e T hB⟩⟩
/-- New blocks are none of those that it lies in. -/
theorem Is.now {B : Bs} {l : List α} {v : Value} {w : World} {X : Nat → Prop} (h : Is e T B l v w) (hX : ∀ b, X b → w.heap.size ≤ b) : Is e T (B.but X) l v w := by
  obtain ⟨a, c, hv, h⟩ := h
  refine ⟨a, c, hv, h.imp id fun ⟨b, off, ha, h1, h2, h3⟩ => ⟨b, off, ha, h1, h2.imp id (fun ⟨h, hx⟩ => ⟨h, fun hb => hb.elim hx (fun hb => by have := hX b hb; omega)⟩), fun i x hx => ?_⟩⟩
  obtain ⟨cs, hc, hu⟩ := h3 i x hx
  exact ⟨cs, e.now hc hX, hu⟩
/-- A slice, as data in one cell. -/
def Enc.slice : Enc (List α) where
  k := 1
  ts := T :: e.ts
  R := fun B l cs w => ∃ v, cs = [v] ∧ Is e T B l v w
  len := fun ⟨v, hc, _⟩ => by rw [hc]; rfl
  one := fun ⟨v, hc, a, c, hv, _⟩ u hu => by rw [hc] at hu; simp at hu; subst hu; subst hv; rfl
  keep := fun ⟨v, hc, h⟩ hk => ⟨v, hc, h.keep e T hk⟩
  up := fun hB ⟨v, hc, h⟩ => ⟨v, hc, h.up e T hB⟩
  now := fun ⟨v, hc, h⟩ hX => ⟨v, hc, h.now e T hX⟩
theorem Is.nil (B : Bs) (w : World) : Is e T B [] (.slice none 0 0) w := ⟨none, 0, rfl, .inl ⟨rfl, fun _ => rfl⟩⟩
theorem Is.empty (B : Bs) (a : Addr) (c : Nat) (w : World) : Is e T B [] (.slice (some a) 0 c) w := ⟨some a, c, rfl, .inl ⟨rfl, fun h => by cases h⟩⟩
theorem Is.cases {B : Bs} {l : List α} {v : Value} {w : World} (h : Is e T B l v w) : (l = [] ∧ ∃ a c, v = .slice a 0 c) ∨ (l ≠ [] ∧ ∃ b off c, v = .slice (some ⟨b, off, none⟩) l.length c ∧ Lies e T B l b off w) := by
  obtain ⟨a, c, hv, h⟩ := h
  by_cases e : l = []
  · subst e; exact .inl ⟨rfl, a, c, hv⟩
  · rcases h with ⟨h, _⟩ | ⟨b, off, rfl, h⟩
    · exact absurd h e
    · exact .inr ⟨e, b, off, c, hv, h⟩
theorem Is.len {B : Bs} {l : List α} {v : Value} {w : World} (h : Is e T B l v w) : ∃ a c, v = .slice a l.length c := by
  obtain ⟨a, c, hv, _⟩ := h; exact ⟨a, c, hv⟩
/-- A slice that the call has made, from block Bo on; its elements lie as data of base B. -/
def Own (B : Bs) (Bo : Nat) (l : List α) (v : Value) (w : World) : Prop :=
  ∃ css : List (List Value), css.length = l.length ∧ (∀ (i : Nat) (x : α) (cs : List Value), l[i]? = some x → css[i]? = some cs → e.R B x cs w) ∧ w.ownsRow Bo T e.k v l.length css.flatten
theorem flat_at {css : List (List Value)} {k : Nat} (hk : ∀ cs ∈ css, cs.length = k) : ∀ (i : Nat) (cs : List Value), css[i]? = some cs → ∀ j u, cs[j]? = some u → css.flatten[i * k + j]? = some u := by
  induction css with
  | nil => intro i cs h; simp at h
  | cons c css ih =>
    intro i cs h j u hu
    have hc := hk c List.mem_cons_self
    have hj : j < cs.length := by
      rcases Nat.lt_or_ge j cs.length with h | h
      · exact h
      · rw [List.getElem?_eq_none h] at hu; cases hu
    rw [List.flatten_cons]
    cases i with
    | zero =>
      obtain rfl : c = cs := by simpa using h
      rw [Nat.zero_mul, Nat.zero_add, List.getElem?_append_left hj]; exact hu
    | succ i =>
      have e : (i + 1) * k + j = c.length + (i * k + j) := by rw [hc, Nat.add_mul, Nat.one_mul]; omega
      rw [e, List.getElem?_append_right (by omega), Nat.add_sub_cancel_left]
      exact ih (fun x hx => hk x (List.mem_cons_of_mem _ hx)) i cs (by simpa using h) j u hu
theorem flat_len {css : List (List Value)} {k : Nat} (hk : ∀ cs ∈ css, cs.length = k) : css.flatten.length = css.length * k := by
  induction css with
  | nil => simp
  | cons c css ih => rw [List.flatten_cons, List.length_append, hk c List.mem_cons_self, ih (fun x hx => hk x (List.mem_cons_of_mem _ hx)), List.length_cons, Nat.add_mul, Nat.one_mul, Nat.add_comm]
variable {e T}
theorem Own.lens {B : Bs} {l : List α} {w : World} {css : List (List Value)} (hl : css.length = l.length) (hc : ∀ (i : Nat) (x : α) (cs : List Value), l[i]? = some x → css[i]? = some cs → e.R B x cs w) : ∀ cs ∈ css, cs.length = e.k := by
  intro cs hcs
  obtain ⟨i, hi, rfl⟩ := List.getElem_of_mem hcs
  exact e.len (hc i l[i] _ (List.getElem?_eq_getElem (by omega)) (List.getElem?_eq_getElem hi))
theorem Own.ones {B : Bs} {l : List α} {w : World} {css : List (List Value)} (hl : css.length = l.length) (hc : ∀ (i : Nat) (x : α) (cs : List Value), l[i]? = some x → css[i]? = some cs → e.R B x cs w) : ∀ u ∈ css.flatten, u.oneCell' = true := by
  intro u hu
  obtain ⟨cs, hcs, hu2⟩ := List.mem_flatten.1 hu
  obtain ⟨i, hi, rfl⟩ := List.getElem_of_mem hcs
  exact e.one (hc i l[i] _ (List.getElem?_eq_getElem (by omega)) (List.getElem?_eq_getElem hi)) u hu2
theorem Own.nil (B : Bs) (Bo : Nat) (w : World) : Own e T B Bo [] (.slice none 0 0) w := ⟨[], rfl, by simp, World.ownsRow_nil w Bo _ _⟩
/-- 'make' of nothing, and '[]T{}'. -/
theorem Own.made (B : Bs) (w : World) (Bo : Nat) (hB : Bo ≤ w.heap.size) : Own e T B Bo [] (.slice (some ⟨w.heap.size, 0, none⟩) 0 0) (w.alloc (.cells #[] T)) :=
  ⟨[], rfl, by simp, World.ownsRow_made (base := Bo) (e := T) (size := e.k) w #[] 0 hB (by unfold maxLen; omega) (by simp)⟩
theorem Own.is {B : Bs} {Bo : Nat} {l : List α} {v : Value} {w : World} (h0 : 0 < e.k) (hB : B.le Bo) (h : Own e T B Bo l v w) : Is e T B l v w := by
  obtain ⟨css, hl, hc, hr⟩ := h
  rcases hr.2 with ⟨rfl, h1⟩ | ⟨g, cap, cur, rfl, hbo, hg, _, _, _, ht⟩
  · have e1 : l = [] := List.eq_nil_of_length_eq_zero h1
    subst e1
    exact Is.nil e T B w
  · refine ⟨_, cap, rfl, .inr ⟨g, 0, rfl, (Array.getElem?_eq_some_iff.1 hg).1, .inr ⟨⟨cur, hg⟩, fun hb => by have := hB.2 g hb; omega⟩, fun i x hx => ?_⟩⟩
    have hi : i < l.length := (List.getElem?_eq_some_iff.1 hx).1
    have hci := List.getElem?_eq_getElem (show i < css.length by omega)
    refine ⟨css[i], hc i x _ hx hci, fun j u hu => ?_⟩
    have hf := flat_at (Own.lens hl hc) i _ hci j u hu
    rw [← ht] at hf
    rw [Nat.zero_add]
    simp only [World.cell?, hg]
    have hlt : i * e.k + j < l.length * e.k := by
      rcases Nat.lt_or_ge (i * e.k + j) (l.length * e.k) with h | h
      · exact h
      · rw [List.getElem?_take, if_neg (by omega)] at hf; cases hf
    rw [List.getElem?_take, if_pos hlt] at hf
    simpa using hf
theorem ownsRow_keep {B : Bs} {Bo : Nat} (hB : B.le Bo) {k n : Nat} {v : Value} {xs : List Value} {w w' : World} (h : w.ownsRow Bo T k v n xs) {ts : List TypeId} (hk : Keeps B (T :: ts) w w') : w'.ownsRow Bo T k v n xs := by
  refine ⟨h.1, ?_⟩
  rcases h.2 with h | ⟨g, cap, cur, h1, h2, h3, h4⟩
  · exact .inl h
  · exact .inr ⟨g, cap, cur, h1, h2, hk.block g _ h3 (.inr ⟨cur, T, _, rfl, List.mem_cons_self, fun hb => by have := hB.2 g hb; omega⟩), h4⟩
theorem Own.keep {B : Bs} {Bo : Nat} {l : List α} {v : Value} {w w' : World} (hB : B.le Bo) (h : Own e T B Bo l v w) (hk : Keeps B (T :: e.ts) w w') : Own e T B Bo l v w' := by
  obtain ⟨css, hl, hc, hr⟩ := h
  exact ⟨css, hl, fun i x cs hx hcs => e.keep (hc i x cs hx hcs) (hk.less fun t ht => List.mem_cons_of_mem _ ht), ownsRow_keep hB hr hk⟩
theorem Own.stays {B : Bs} {Bo : Nat} {l : List α} {v : Value} {w w' : World} (h : Own e T B Bo l v w) (hb : Below w.heap.size w w') : Own e T B Bo l v w' := by
  obtain ⟨css, hl, hc, hr⟩ := h
  refine ⟨css, hl, fun i x cs hx hcs => e.stays (hc i x cs hx hcs) hb, hr.1, ?_⟩
  rcases hr.2 with h | ⟨g, cap, cur, h1, h2, h3, h4⟩
  · exact .inl h
  · exact .inr ⟨g, cap, cur, h1, h2, (hb.block g (Array.getElem?_eq_some_iff.1 h3).1).trans h3, h4⟩
theorem add_eq (b off j : Nat) : (⟨b, off, none⟩ : Addr).add j = ⟨b, off + j, none⟩ := by
  unfold Addr.add
  split
  · rename_i h; rw [h]; rfl
  · rfl
theorem flat_inv {css : List (List Value)} {k : Nat} (hk : ∀ cs ∈ css, cs.length = k) : ∀ (j : Nat) (u : Value), css.flatten[j]? = some u → ∃ i cs j', css[i]? = some cs ∧ cs[j']? = some u ∧ j = i * k + j' := by
  induction css with
  | nil => intro j u h; simp at h
  | cons c css ih =>
    intro j u h
    rw [List.flatten_cons] at h
    have hc := hk c List.mem_cons_self
    by_cases hj : j < k
    · rw [List.getElem?_append_left (by rw [hc]; exact hj)] at h
      exact ⟨0, c, j, rfl, h, by omega⟩
    · rw [List.getElem?_append_right (by rw [hc]; omega), hc] at h
      obtain ⟨i, cs, j', h1, h2, h3⟩ := ih (fun x hx => hk x (List.mem_cons_of_mem _ hx)) _ _ h
      exact ⟨i + 1, cs, j', by simpa using h1, h2, by rw [Nat.add_mul, Nat.one_mul]; omega⟩
/-- What an append of a whole list asks of it. -/
theorem Is.src {B : Bs} {l : List α} {v : Value} {w : World} (h : Is e T B l v w) : (l = [] ∧ v = .slice none 0 0) ∨ ∃ (ad : Addr) (c : Nat) (css : List (List Value)), v = .slice (some ad) l.length c ∧ css.length = l.length ∧ (∀ (i : Nat) (x : α) (cs : List Value), l[i]? = some x → css[i]? = some cs → e.R B x cs w) ∧ ∀ j u, css.flatten[j]? = some u → w.cell? (ad.add j) = some u := by
  classical
  obtain ⟨a, c, rfl, h⟩ := h
  rcases h with ⟨rfl, h⟩ | ⟨b, off, rfl, h1, h2, h3⟩
  · cases a with
    | none => rw [h rfl]; exact .inl ⟨rfl, rfl⟩
    | some ad => exact .inr ⟨ad, c, [], rfl, rfl, by simp, by simp⟩
  · right
    have hg : ∀ i, ∃ cs : List Value, ∀ (hi : i < l.length), e.R B l[i] cs w ∧ ∀ j u, cs[j]? = some u → w.cell? ⟨b, off + i * e.k + j, none⟩ = some u := fun i => by
      by_cases hi : i < l.length
      · obtain ⟨cs, hc, hu⟩ := h3 i l[i] (List.getElem?_eq_getElem hi)
        exact ⟨cs, fun _ => ⟨hc, hu⟩⟩
      · exact ⟨[], fun h => absurd h hi⟩
    let f := fun i => Classical.choose (hg i)
    have hf : ∀ i (hi : i < l.length), e.R B l[i] (f i) w ∧ ∀ j u, (f i)[j]? = some u → w.cell? ⟨b, off + i * e.k + j, none⟩ = some u := fun i => Classical.choose_spec (hg i)
    have hat : ∀ i, i < l.length → ((List.range l.length).map f)[i]? = some (f i) := fun i hi => by simp [hi]
    have hR : ∀ (i : Nat) (x : α) (cs : List Value), l[i]? = some x → ((List.range l.length).map f)[i]? = some cs → e.R B x cs w := fun i x cs hx hcs => by
      obtain ⟨hi, rfl⟩ := List.getElem?_eq_some_iff.1 hx
      rw [hat i hi] at hcs
      obtain rfl := Option.some.inj hcs
      exact (hf i hi).1
    refine ⟨⟨b, off, none⟩, c, (List.range l.length).map f, rfl, by simp, hR, fun j u hu => ?_⟩
    have hlen : ∀ cs ∈ (List.range l.length).map f, cs.length = e.k := Own.lens (by simp) hR
    obtain ⟨i, cs, j', h4, h5, rfl⟩ := flat_inv hlen j u hu
    have hi : i < l.length := by
      have := (List.getElem?_eq_some_iff.1 h4).1
      simpa using this
    rw [hat i hi] at h4
    obtain rfl := Option.some.inj h4
    rw [add_eq, ← Nat.add_assoc]
    exact (hf i hi).2 j' u h5
/-- Behind an append of some elements. -/
theorem Own.app {B : Bs} {Bo : Nat} {l m : List α} {v v' : Value} {w w' : World} {css dss : List (List Value)} (hT : T ∉ e.ts) (hB : B.le Bo) (hl : css.length = l.length) (hc : ∀ (i : Nat) (x : α) (cs : List Value), l[i]? = some x → css[i]? = some cs → e.R B x cs w) (hr : w.ownsRow Bo T e.k v l.length css.flatten)
    (hl2 : dss.length = m.length) (hd : ∀ (i : Nat) (x : α) (cs : List Value), m[i]? = some x → dss[i]? = some cs → e.R B x cs w) (hr' : w'.ownsRow Bo T e.k v' (l.length + m.length) (css.flatten ++ dss.flatten)) (hg : w.grownBy w' v.ownBlock) : Own e T B Bo (l ++ m) v' w' := by
  have hk : Keeps B e.ts w w' := Keeps.grown hr hB hT hg
  refine ⟨css ++ dss, by simp [hl, hl2], fun i x cs hx hcs => e.keep ?_ hk, by rw [List.flatten_append, List.length_append]; exact hr'⟩
  rcases Nat.lt_or_ge i l.length with hi | hi
  · rw [List.getElem?_append_left hi] at hx
    rw [List.getElem?_append_left (by omega)] at hcs
    exact hc i x cs hx hcs
  · rw [List.getElem?_append_right hi] at hx
    rw [List.getElem?_append_right (by omega), hl] at hcs
    exact hd _ x cs hx hcs
theorem Own.snoc {B : Bs} {Bo : Nat} {l : List α} {x : α} {v v' : Value} {w w' : World} {css : List (List Value)} {cs : List Value} (hT : T ∉ e.ts) (hB : B.le Bo) (hl : css.length = l.length) (hc : ∀ (i : Nat) (x : α) (cs : List Value), l[i]? = some x → css[i]? = some cs → e.R B x cs w) (hr : w.ownsRow Bo T e.k v l.length css.flatten)
    (hd : e.R B x cs w) (hr' : w'.ownsRow Bo T e.k v' (l.length + 1) (css.flatten ++ cs)) (hg : w.grownBy w' v.ownBlock) : Own e T B Bo (l ++ [x]) v' w' :=
  Own.app (dss := [cs]) hT hB hl hc hr rfl (fun i y ds hy hds => by
    cases i with
    | zero => simp at hy hds; subst hy; subst hds; exact hd
    | succ i => simp at hy) (by simpa using hr') hg
/-- What an append asks of a slice's type t, of elements of type T, of k cells and so many bytes each. -/
structure Elem (P : Program) (t T : TypeId) (k bytes : Nat) : Prop where
  ht : P.underlying t = some (.slice T)
  ex : ∃ i z, P.info? T = some i ∧ i.zero = some z ∧ i.size = k ∧ i.bytes = bytes ∧ z.cells.size = k
  pos : 0 < k
theorem elem_of {P : Program} {t T : TypeId} {k bytes : Nat} (ht : P.underlying t = some (.slice T)) {z : Value} (hi : (P.info? T).map (fun i => (i.zero, i.size, i.bytes)) = some (some z, k, bytes)) (hz : z.cells.size = k) (h0 : 0 < k) : Elem P t T k bytes := by
  obtain ⟨i, h1, h2, h3, h4⟩ := info_parts hi
  exact ⟨ht, ⟨i, z, h1, h2, h3, h4, hz⟩, h0⟩
/-- A list of one, just made. -/
theorem Is.one {B : Bs} {x : α} {cs : List Value} {w : World} (hB : B.le w.heap.size) (h : e.R B x cs w) : Is e T B [x] (.slice (some ⟨w.heap.size, 0, none⟩) 1 1) (w.alloc (.cells cs.toArray T)) := by
  have hn : (w.alloc (.cells cs.toArray T)).heap[w.heap.size]? = some (.cells cs.toArray T (0, 0)) := heap_alloc_new w _
  refine ⟨_, 1, rfl, .inr ⟨w.heap.size, 0, rfl, by simp, .inr ⟨⟨_, hn⟩, fun hb => by have := hB.2 _ hb; omega⟩, fun i y hy => ?_⟩⟩
  cases i with
  | zero =>
    simp at hy
    subst hy
    refine ⟨cs, e.stays h ((Below.refl _ _).alloc (Nat.le_refl _) _), fun j u hu => ?_⟩
    simp only [World.cell?, hn]
    simpa using hu
  | succ i => simp at hy
theorem Lies.at {B : Bs} {l : List α} {b off : Nat} {w : World} (h : Lies e T B l b off w) (i : Nat) (hi : i < l.length) : ∃ cs, e.R B l[i] cs w ∧ ∀ j u, cs[j]? = some u → w.cell? ⟨b, off + i * e.k + j, none⟩ = some u := h.2.2 i _ (List.getElem?_eq_getElem hi)
end
noncomputable def sameB {α : Type} (a b : α) : Bool := @decide (a = b) (Classical.propDecidable _)
theorem sameB_yes {α : Type} {a b : α} (h : a = b) : sameB a b = true := @decide_eq_true _ (Classical.propDecidable _) h
theorem sameB_no {α : Type} {a b : α} (h : a ≠ b) : sameB a b = false := @decide_eq_false _ (Classical.propDecidable _) h
theorem sameB_eq {α : Type} {a b : α} (h : sameB a b = true) : a = b := @of_decide_eq_true _ (Classical.propDecidable _) h
theorem sameB_ne {α : Type} {a b : α} (h : sameB a b = false) : a ≠ b := @of_decide_eq_false _ (Classical.propDecidable _) h
theorem take_snoc {α : Type} {l : List α} {i : Nat} (h : i < l.length) : l.take (i + 1) = l.take i ++ [l[i]] := List.take_succ_eq_append_getElem h
end Go.Proofs.Ytfnmmknbjfmagaa.Da
/- An append by a fact laid ahead of the walk. Of no program. -/
namespace Go.Proofs.Ytfnmmknbjfmagaa.Da
open Go.RowKit
set_option linter.unusedVariables false
/-- What 'append(v, x...)' comes to: a walk does not look behind the name. -/
def appRun (P : Program) (t ty : TypeId) (v x : Value) (w : World) : Result Value := (Builtin.append_ #[t, t] ty #[v, x]).run P w
section
variable {P : Program} (ρ : Operand → Value) (dst : Option Tmp) (ty : TypeId) (pos : String) (after : Array Edge) (guard : Option (Nat × Bool)) (w : World)
theorem exec_append (s x : Operand) (t : TypeId) :
    (execOp ρ { dst, op := .call { callee := .builtin .append, args := #[s, x], argTypes := #[t, t] }, type := ty, pos, after, guard }).run P w = (appRun P t ty (ρ s) (ρ x) w).andThen fun v w' => .ok (.value v) w' := by
  unfold execOp appRun
  simp only [resolve, invoke, builtin, Sem.run_bind, Sem.run_pure, List.map_toArray, List.map_cons, List.map_nil, Result.andThen_ok]
end
attribute [go_sem ↓] exec_append
section
variable {α : Type} {e : Enc α} {T : TypeId}
/-- 'append(v, x...)': v of the call's own, x whatever list. -/
theorem Own.append {P : Program} {t : TypeId} {bytes : Nat} (E : Elem P t T e.k bytes) (ty : TypeId) (hT : T ∉ e.ts) {B : Bs} {Bo : Nat} {l m : List α} {v x : Value} {w : World} (hB : B.le Bo) (hBo : Bo ≤ w.heap.size) (h : Own e T B Bo l v w) (hx : Is e T B m x w) (h63 : l.length + m.length ≤ 1000000000) (hby : bytes ≤ 100000) :
    ∃ v' w', appRun P t ty v x w = .ok v' w' ∧ Own e T B Bo (l ++ m) v' w' ∧ w.grownBy w' v.ownBlock ∧ (∀ n w0, n ≤ Bo → Below n w0 w → Below n w0 w') ∧ ∀ ts, T ∉ ts → Keeps B ts w w' := by
  obtain ⟨i, z, hi, hz, hs, hb, hzs⟩ := E.ex
  obtain ⟨css, hl, hc, hr⟩ := h
  have hbl : ∀ {w' : World}, w.grownBy w' v.ownBlock → ∀ n w0, n ≤ Bo → Below n w0 w → Below n w0 w' := fun hg n w0 hn hb => hb.grown hg (Nat.le_trans hn hBo) (fun k hk => Nat.le_trans hn (hr.lt k hk).1)
  rcases hx.src with ⟨rfl, rfl⟩ | ⟨ad, c, dss, rfl, hdl, hd, hu⟩
  · exact ⟨v, w, run_append_owned_none (P := P) (w := w) Bo t ty T i e.k E.ht hi v l.length css.flatten hr, by rw [List.append_nil]; exact ⟨css, hl, hc, hr⟩, ⟨rfl, rfl, rfl, Nat.le_refl _, fun _ _ _ => rfl⟩, fun _ _ _ h => h, fun ts _ => Keeps.refl _ _ _⟩
  · have hlen : dss.flatten.length = m.length * e.k := by rw [flat_len (Own.lens hdl hd), hdl]
    have hbytes : (l.length + m.length) * bytes ≤ 140737488355328 := Nat.le_trans (Nat.mul_le_mul h63 hby) (by decide)
    obtain ⟨v', w', h1, h2, h3, _⟩ := run_append_own (P := P) w Bo t ty T i z e.k bytes E.ht hi hz hs hb hzs E.pos v l.length css.flatten hr ad m.length c dss.flatten hlen hu (Own.ones hdl hd) (by unfold maxLen; omega) hbytes hBo
    exact ⟨v', w', h1, Own.app hT hB hl hc hr hdl hd h2 h3, h3, hbl h3, fun ts ht => Keeps.grown hr hB ht h3⟩
end
end Go.Proofs.Ytfnmmknbjfmagaa.Da
/- An append leaves the row where it is, or makes a new one. Of no program. -/
namespace Go.Proofs.Ytfnmmknbjfmagaa.Da
open Go.RowKit
set_option linter.unusedVariables false
section
variable {α : Type} {e : Enc α} {T : TypeId}
/-- The row of an append's result is the old one or a new one. -/
theorem append_block {P : Program} {t : TypeId} {bytes : Nat} (E : Elem P t T e.k bytes) (ty : TypeId) {B : Bs} {Bo : Nat} {l m : List α} {v x v' : Value} {w w' : World} (h : Own e T B Bo l v w) (hx : Is e T B m x w) (h63 : l.length + m.length ≤ 1000000000) (hby : bytes ≤ 100000)
    (hrun : appRun P t ty v x w = .ok v' w') : v'.ownBlock = v.ownBlock ∨ v'.ownBlock = some w.heap.size := by
  obtain ⟨i, z, hi, hz, hs, hb, hzs⟩ := E.ex
  subst hb
  obtain ⟨css, hl, hc, hr⟩ := h
  unfold appRun at hrun
  rcases hx.src with ⟨rfl, rfl⟩ | ⟨ad, c, dss, rfl, hdl, hd, hu⟩
  · have := run_append_owned_none (P := P) (w := w) Bo t ty T i e.k E.ht hi v l.length css.flatten hr
    rw [this] at hrun
    injection hrun with h1 h2
    exact .inl (by rw [← h1])
  · have hlen : dss.flatten.length = m.length * i.size := by rw [flat_len (Own.lens hdl hd), hdl, hs]
    have hbytes : (l.length + m.length) * i.bytes ≤ 140737488355328 := Nat.le_trans (Nat.mul_le_mul h63 hby) (by decide)
    have h1 := Own.ones hdl hd
    rcases hr.2 with ⟨rfl, hn⟩ | ⟨g, cap, cur, rfl, hbg, hg, hnc, hcm, hcs, htake⟩
    · by_cases hm : m.length = 0
      · have hm0 : m = [] := List.length_eq_zero_iff.1 hm
        subst hm0
        have hd0 : dss.flatten = [] := List.eq_nil_of_length_eq_zero (by rw [hlen]; simp)
        have hr0 : (Builtin.append_ #[t, t] ty #[.slice none 0 0, .slice (some ad) 0 c]).run P w = .ok (.slice none 0 0) w := by
          simp [Builtin.append_, run_underlying E.ht, sizeOf, typeInfo, hi, Builtin.lenOf, Builtin.firstCells, loadCells, loadCellsFrom]
        rw [show ([] : List α).length = 0 from rfl, hr0] at hrun
        injection hrun with h2 h3
        exact .inl (by rw [← h2])
      · have hr0 := run_append_nil (P := P) w t ty T i z E.ht hi hz ad m.length c dss.flatten hlen hu (by omega) (by omega) (by have hb := hbytes; rw [hn, Nat.zero_add] at hb; omega)
        rw [hr0] at hrun
        injection hrun with h2 h3
        exact .inr (by rw [← h2]; rfl)
    · by_cases hroom : l.length + m.length ≤ cap
      · have hfit : l.length * i.size + dss.flatten.length ≤ cur.size := by rw [hlen, hcs, hs, ← Nat.add_mul]; exact Nat.mul_le_mul_right _ hroom
        have hr0 := run_append_room (P := P) w t ty T i E.ht hi g l.length cap cur hg ad m.length c dss.flatten hlen hu h1 hroom hfit
        rw [hr0] at hrun
        injection hrun with h2 h3
        exact .inl (by rw [← h2]; rfl)
      · have holds : ∀ j u, css.flatten[j]? = some u → w.cell? ((⟨g, 0, none⟩ : Addr).add j) = some u := hr.cells (g := g) rfl
        have hr0 := run_append_grow (P := P) w t ty T i z E.ht hi hz ⟨g, 0, none⟩ l.length cap css.flatten (by rw [hr.1, hs]) holds ad m.length c dss.flatten hlen hu (by omega) (by omega) (growslice_fits (by omega) hbytes)
        rw [hr0] at hrun
        injection hrun with h2 h3
        exact .inr (by rw [← h2]; rfl)
/-- The base with a list's own row left out keeps what lies in it behind an append to that list, whatever the types. -/
theorem keeps_but {B : Bs} {ts : List TypeId} {v : Value} {w w' : World} (hg : w.grownBy w' v.ownBlock) (hlo : ∀ g, v.ownBlock = some g → B.lo ≤ g) : Keeps (B.but fun b => v.ownBlock = some b) ts w w' :=
  ⟨hg.size, fun b o hb ho => by
    refine (hg.block b (Array.getElem?_eq_some_iff.1 hb).1 fun e => ?_).trans hb
    rcases ho with ho | ⟨_, _, _, _, _, hn⟩
    · have := hlo b e.symm
      have h2 : b < B.lo := ho
      omega
    · exact hn (.inr e.symm)⟩
/-- What lies apart from a list's own row lies, behind an append to that list, apart from its row. -/
theorem Is.apart {β : Type} (f : Enc β) (S : TypeId) {B : Bs} {L : List β} {y v v' : Value} {w w' : World} (h : Is f S (B.but fun b => v.ownBlock = some b) L y w) (hg : w.grownBy w' v.ownBlock) (hlo : ∀ g, v.ownBlock = some g → B.lo ≤ g)
    (hv : v'.ownBlock = v.ownBlock ∨ v'.ownBlock = some w.heap.size) : Is f S (B.but fun b => v'.ownBlock = some b) L y w' := by
  have h2 := Is.keep f S h (keeps_but (ts := S :: f.ts) hg hlo)
  rcases hv with e | e
  · rw [e]; exact h2
  · have h3 := Is.now f S (X := fun b => b = w.heap.size) h (fun b hb => by rw [hb]; exact Nat.le_refl _)
    have hk : Keeps ((B.but fun b => v.ownBlock = some b).but fun b => b = w.heap.size) (S :: f.ts) w w' :=
      ⟨hg.size, fun b o hb ho => by
        refine (keeps_but (ts := S :: f.ts) hg hlo).block b o hb ?_
        rcases ho with ho | ⟨cur, t, fr, e, ht, hn⟩
        · exact .inl ho
        · exact .inr ⟨cur, t, fr, e, ht, fun hx => hn (.inl hx)⟩⟩
    have h4 := Is.keep f S h3 hk
    refine Is.up f S (A := (B.but fun b => v.ownBlock = some b).but fun b => b = w.heap.size) ⟨Nat.le_refl _, fun b hb => ?_⟩ h4
    rcases hb with hb | hb
    · exact .inl (.inl (.inl hb))
    · rw [e] at hb
      exact .inl (.inr (Option.some.inj hb).symm)
end
end Go.Proofs.Ytfnmmknbjfmagaa.Da
/- Rows of flat elements (a list that lies in one block, each element in k cells of its own): stored into, cut, cleared, copied. Of no program. -/
namespace Go.Proofs.Ytfnmmknbjfmagaa.Ro
open Go.RowKit
set_option linter.unusedVariables false
open Go.Proofs.Ytfnmmknbjfmagaa.Rw (nx)
open Go.Proofs.Ytfnmmknbjfmagaa.Da
/-- How a kind of data lies in k cells. -/
structure Flat (α : Type) where
  k : Nat
  f : α → List Value
  len : ∀ x, (f x).length = k
  one : ∀ x, ∀ u ∈ f x, u.oneCell' = true
def Flat.enc {α : Type} (e : Flat α) : Enc α := Enc.flat e.k e.f e.len e.one
section
variable {α : Type} {e : Flat α} {T : TypeId}
/-- The first cells of cur are the elements xs. -/
def Says (e : Flat α) (xs : List α) (cur : List Value) : Prop := ∀ i x, xs[i]? = some x → ∀ j u, (e.f x)[j]? = some u → cur[i * e.k + j]? = some u
/-- Block g is a row that may be written, with room for cap elements; its first ones are xs. -/
structure Row (e : Flat α) (T : TypeId) (g cap : Nat) (xs : List α) (w : World) : Prop where
  ex : ∃ cur : List Value, w.heap[g]? = some (.cells cur.toArray T (0, 0)) ∧ cur.length = cap * e.k ∧ Says e xs cur
  le : xs.length ≤ cap
theorem Row.lt {g cap : Nat} {xs : List α} {w : World} (h : Row e T g cap xs w) : g < w.heap.size := by
  obtain ⟨cur, hg, _⟩ := h.ex; exact (Array.getElem?_eq_some_iff.1 hg).1
theorem Row.block {g cap : Nat} {xs : List α} {w w' : World} (h : Row e T g cap xs w) (hb : w'.heap[g]? = w.heap[g]?) : Row e T g cap xs w' := by
  obtain ⟨cur, hg, h1⟩ := h.ex; exact ⟨⟨cur, hb.trans hg, h1⟩, h.le⟩
theorem Row.stays {g cap : Nat} {xs : List α} {w w' : World} (h : Row e T g cap xs w) (hb : Below w.heap.size w w') : Row e T g cap xs w' := h.block (hb.block g h.lt)
theorem Row.cell {g cap : Nat} {xs : List α} {w : World} (h : Row e T g cap xs w) {i : Nat} {x : α} (hx : xs[i]? = some x) {j : Nat} {u : Value} (hu : (e.f x)[j]? = some u) : w.cell? ⟨g, i * e.k + j, none⟩ = some u := by
  obtain ⟨cur, hg, _, h1⟩ := h.ex
  simp only [World.cell?, hg]
  simpa using h1 i x hx j u hu
theorem Row.frozen {g cap : Nat} {xs : List α} {w : World} (h : Row e T g cap xs w) (o : Nat) : w.frozen? ⟨g, o, none⟩ = false := by
  obtain ⟨cur, hg, _⟩ := h.ex
  simp [World.frozen?, hg]
theorem Row.take {g cap : Nat} {xs : List α} {w : World} (h : Row e T g cap xs w) (n : Nat) : Row e T g cap (xs.take n) w := by
  obtain ⟨cur, hg, hl, h1⟩ := h.ex
  refine ⟨⟨cur, hg, hl, fun i x hx => h1 i x ?_⟩, by have := h.le; rw [List.length_take]; omega⟩
  rw [List.getElem?_take] at hx
  split at hx
  · exact hx
  · cases hx
theorem says_ext {xs : List α} {cur : List Value} (h : Says e xs cur) (hl : xs.length * e.k ≤ cur.length) : cur.take (xs.length * e.k) = (xs.map e.f).flatten := by
  have hk : ∀ cs ∈ xs.map e.f, cs.length = e.k := fun cs hcs => by obtain ⟨x, _, rfl⟩ := List.mem_map.1 hcs; exact e.len x
  have hlen : (xs.map e.f).flatten.length = xs.length * e.k := by rw [flat_len hk, List.length_map]
  apply List.ext_getElem?
  intro j
  by_cases hj : j < xs.length * e.k
  · rw [List.getElem?_take, if_pos hj]
    obtain ⟨u, h2⟩ : ∃ u, (xs.map e.f).flatten[j]? = some u := ⟨_, List.getElem?_eq_getElem (by omega)⟩
    obtain ⟨i, cs, j', h3, h4, h5⟩ := flat_inv hk j u h2
    rw [h2, h5]
    rw [List.getElem?_map] at h3
    obtain ⟨x, hx, rfl⟩ := Option.map_eq_some_iff.1 h3
    exact h i x hx j' u h4
  · rw [List.getElem?_eq_none (by rw [List.length_take]; omega), List.getElem?_eq_none (by omega)]
theorem Row.owns {g cap : Nat} {xs : List α} {w : World} {Bo : Nat} (h : Row e T g cap xs w) (hB : Bo ≤ g) (hc : cap ≤ maxLen) : w.ownsRow Bo T e.k (.slice (some ⟨g, 0, none⟩) xs.length cap) xs.length (xs.map e.f).flatten := by
  obtain ⟨cur, hg, hl, h1⟩ := h.ex
  have hk : ∀ cs ∈ xs.map e.f, cs.length = e.k := fun cs hcs => by obtain ⟨x, _, rfl⟩ := List.mem_map.1 hcs; exact e.len x
  refine ⟨by rw [flat_len hk, List.length_map], .inr ⟨g, cap, cur.toArray, rfl, hB, hg, h.le, hc, by simpa using hl, ?_⟩⟩
  exact says_ext h1 (by rw [hl]; exact Nat.mul_le_mul_right _ h.le)
theorem Row.own {g cap : Nat} {xs : List α} {w : World} {B : Bs} {Bo : Nat} (h : Row e T g cap xs w) (hB : Bo ≤ g) (hc : cap ≤ maxLen) : Own e.enc T B Bo xs (.slice (some ⟨g, 0, none⟩) xs.length cap) w :=
  ⟨xs.map e.f, by simp, fun i x cs hx hcs => by
    rw [List.getElem?_map, hx] at hcs
    exact (Option.some.inj hcs).symm, h.owns hB hc⟩
/-- A list of the call's own is nil, or lies in a row. -/
theorem Row.ofOwn {B : Bs} {Bo : Nat} {xs : List α} {v : Value} {w : World} (h : Own e.enc T B Bo xs v w) : (v = .slice none 0 0 ∧ xs = []) ∨ ∃ g cap, v = .slice (some ⟨g, 0, none⟩) xs.length cap ∧ Bo ≤ g ∧ cap ≤ maxLen ∧ Row e T g cap xs w := by
  obtain ⟨css, hl, hc, hr⟩ := h
  rcases hr.2 with ⟨rfl, h1⟩ | ⟨g, cap, cur, rfl, hbo, hg, hn, hm, hs, ht⟩
  · exact .inl ⟨rfl, List.eq_nil_of_length_eq_zero h1⟩
  · refine .inr ⟨g, cap, rfl, hbo, hm, ⟨⟨cur.toList, by simpa using hg, by rw [Array.length_toList]; exact hs, fun i x hx j u hu => ?_⟩, hn⟩⟩
    have hi : i < xs.length := (List.getElem?_eq_some_iff.1 hx).1
    have hci := List.getElem?_eq_getElem (show i < css.length by omega)
    have he : css[i] = e.f x := hc i x _ hx hci
    rw [he] at hci
    have hf := flat_at (Own.lens hl hc) i _ hci j u hu
    rw [← ht] at hf
    have hlt : i * e.k + j < xs.length * e.k := by
      rcases Nat.lt_or_ge (i * e.k + j) (xs.length * e.k) with h | h
      · exact h
      · rw [List.getElem?_take, if_neg (by show ¬ i * e.k + j < xs.length * e.k; omega)] at hf; cases hf
    rw [List.getElem?_take, if_pos (by exact hlt)] at hf
    exact hf
/-- 'make([]T, n)'. -/
theorem Row.made {w : World} {n : Nat} {z : Array Value} (x0 : α) (hz : z.toList = e.f x0) (hk : 0 < e.k) : Row e T w.heap.size n (List.replicate n x0) (w.alloc (.cells (madeCells z (n * e.k)) T)) := by
  have hzs : z.size = e.k := by rw [← e.len x0, ← hz]; simp
  refine ⟨⟨(madeCells z (n * e.k)).toList, by simpa using heap_alloc_new w _, by simp [size_madeCells], fun i x hx j u hu => ?_⟩, by simp⟩
  rw [List.getElem?_replicate] at hx
  split at hx
  · rename_i hi
    obtain rfl := Option.some.inj hx
    have hj : j < e.k := by
      rcases Nat.lt_or_ge j e.k with h | h
      · exact h
      · rw [List.getElem?_eq_none (by rw [e.len]; exact h)] at hu; cases hu
    have hlt : i * e.k + j < n * e.k := by
      have : (i + 1) * e.k ≤ n * e.k := Nat.mul_le_mul_right _ hi
      rw [Nat.add_mul, Nat.one_mul] at this; omega
    have hm : (i * e.k + j) % e.k = j := by rw [Nat.mul_comm, Nat.mul_add_mod]; exact Nat.mod_eq_of_lt hj
    rw [Array.getElem?_toList]
    simp only [madeCells, Array.getElem?_map, Array.getElem?_range, hlt, if_true, Option.map_some, hzs, hm]
    rw [← hz] at hu
    rw [Array.getElem?_toList] at hu
    rw [getElem!_pos z j (by omega)]
    rw [Array.getElem?_eq_getElem (by omega)] at hu
    exact hu
  · cases hx
theorem splice_get {L cs : List Value} {off : Nat} (h : off + cs.length ≤ L.length) (m : Nat) : (splice L off cs)[m]? = if m < off then L[m]? else if m < off + cs.length then cs[m - off]? else L[m]? := by
  unfold splice
  by_cases h1 : m < off
  · rw [if_pos h1, List.getElem?_append_left (by rw [List.length_take]; omega), List.getElem?_take, if_pos h1]
  · rw [if_neg h1, List.getElem?_append_right (by rw [List.length_take]; omega), List.length_take, Nat.min_eq_left (by omega)]
    by_cases h2 : m < off + cs.length
    · rw [if_pos h2, List.getElem?_append_left (by omega)]
    · rw [if_neg h2, List.getElem?_append_right (by omega), List.getElem?_drop]
      congr 1; omega
theorem setRow_grown (w : World) (g : Nat) (c : Array Value) : w.grownBy (w.setRow g c) (some g) :=
  ⟨rfl, rfl, rfl, by simp [World.setRow], fun i hi hne => setRow_other w g i c (fun e => hne (by rw [e]))⟩
theorem mul_apart {i j a b k : Nat} (ha : a < k) (hb : b < k) (h : i * k + a = j * k + b) : i = j ∧ a = b := by
  have h1 : (i * k + a) / k = i := by rw [Nat.mul_comm, Nat.mul_add_div (by omega), Nat.div_eq_of_lt ha]; rfl
  have h2 : (j * k + b) / k = j := by rw [Nat.mul_comm, Nat.mul_add_div (by omega), Nat.div_eq_of_lt hb]; rfl
  have : i = j := by rw [← h1, ← h2, h]
  subst this
  exact ⟨rfl, by omega⟩
theorem get_lt {x : α} {j : Nat} {u : Value} (h : (e.f x)[j]? = some u) : j < e.k := by
  rcases Nat.lt_or_ge j e.k with h' | h'
  · exact h'
  · rw [List.getElem?_eq_none (by rw [e.len]; exact h')] at h; cases h
/-- A store into one cell of an element. -/
theorem Row.setCell {g cap : Nat} {xs : List α} {w : World} (h : Row e T g cap xs w) {i j : Nat} {x y : α} {u : Value} (hx : xs[i]? = some x) (hj : j < e.k) (hy : e.f y = (e.f x).set j u) : Row e T g cap (xs.set i y) (w.setCell ⟨g, i * e.k + j, none⟩ u) := by
  obtain ⟨cur, hg, hl, h1⟩ := h.ex
  have hi : i < xs.length := (List.getElem?_eq_some_iff.1 hx).1
  refine ⟨⟨cur.set (i * e.k + j) u, ?_, by rw [List.length_set, hl], fun i' x' hx' j' u' hu' => ?_⟩, by rw [List.length_set]; exact h.le⟩
  · rw [Go.Sort.setCell_eq]
    simp only [Go.Sort.mapBlock, Array.getElem?_modify, if_true, hg, Option.map_some, Go.Sort.onCells]
    simp
  · have hj' := get_lt hu'
    rw [List.getElem?_set]
    by_cases e1 : i * e.k + j = i' * e.k + j'
    · obtain ⟨rfl, rfl⟩ := mul_apart hj hj' e1
      rw [List.getElem?_set_self hi] at hx'
      obtain rfl := Option.some.inj hx'
      rw [hy, List.getElem?_set_self (by rw [e.len]; exact hj)] at hu'
      have hlt : i * e.k + j < cur.length := by
        rw [hl]
        have : (i + 1) * e.k ≤ cap * e.k := Nat.mul_le_mul_right _ (by have := h.le; omega)
        rw [Nat.add_mul, Nat.one_mul] at this; omega
      rw [if_pos rfl, if_pos hlt, hu']
    · rw [if_neg e1]
      by_cases e2 : i = i'
      · subst e2
        rw [List.getElem?_set_self hi] at hx'
        obtain rfl := Option.some.inj hx'
        rw [hy, List.getElem?_set_ne (by intro e3; exact e1 (by rw [e3]))] at hu'
        exact h1 i x hx j' u' hu'
      · rw [List.getElem?_set_ne e2] at hx'
        exact h1 i' x' hx' j' u' hu'
/-- The elements ys laid over a row from place i on. -/
theorem Row.splice {g cap : Nat} {xs ys : List α} {w : World} {cur cs : List Value} (hg : w.heap[g]? = some (.cells cur.toArray T (0, 0))) (hl : cur.length = cap * e.k) (hs : Says e xs cur) {i : Nat} (hi : i ≤ xs.length) (hle : i + ys.length ≤ cap) (hx : xs.length ≤ cap)
    (hcl : cs.length = ys.length * e.k) (hc : Says e ys cs) : Row e T g cap (xs.take i ++ ys ++ xs.drop (i + ys.length)) (w.setRow g (Go.splice cur (i * e.k) cs).toArray) := by
  have hfit : i * e.k + cs.length ≤ cur.length := by rw [hcl, hl, ← Nat.add_mul]; exact Nat.mul_le_mul_right _ hle
  refine ⟨⟨_, setRow_heap w g _ _ T (0, 0) hg, by rw [length_splice _ _ _ hfit, hl], fun m x hx' j u hu => ?_⟩, by simp only [List.length_append, List.length_take, List.length_drop]; omega⟩
  have hj := get_lt hu
  rw [splice_get hfit]
  by_cases h1 : m < i
  · rw [List.append_assoc, List.getElem?_append_left (by rw [List.length_take]; omega), List.getElem?_take, if_pos h1] at hx'
    have hlt : m * e.k + j < i * e.k := by
      have : (m + 1) * e.k ≤ i * e.k := Nat.mul_le_mul_right _ h1
      rw [Nat.add_mul, Nat.one_mul] at this; omega
    rw [if_pos hlt]
    exact hs m x hx' j u hu
  · have hge : i * e.k ≤ m * e.k := Nat.mul_le_mul_right _ (by omega)
    rw [if_neg (by omega)]
    rw [List.append_assoc, List.getElem?_append_right (by rw [List.length_take]; omega), List.length_take, Nat.min_eq_left hi] at hx'
    by_cases h2 : m < i + ys.length
    · rw [List.getElem?_append_left (by omega)] at hx'
      have hlt : m * e.k + j < i * e.k + cs.length := by
        rw [hcl, ← Nat.add_mul]
        have : (m + 1) * e.k ≤ (i + ys.length) * e.k := Nat.mul_le_mul_right _ h2
        rw [Nat.add_mul m, Nat.one_mul] at this; omega
      rw [if_pos hlt]
      have e1 : m * e.k + j - i * e.k = (m - i) * e.k + j := by rw [Nat.sub_mul]; omega
      rw [e1]
      exact hc (m - i) x hx' j u hu
    · have hge2 : i * e.k + cs.length ≤ m * e.k := by rw [hcl, ← Nat.add_mul]; exact Nat.mul_le_mul_right _ (by omega)
      rw [if_neg (by omega)]
      rw [List.getElem?_append_right (by omega), List.getElem?_drop] at hx'
      have e1 : i + ys.length + (m - i - ys.length) = m := by omega
      rw [e1] at hx'
      exact hs m x hx' j u hu
/-- The cells of elements, as they are read one by one. -/
theorem says_flat (ys : List α) : Says e ys (ys.map e.f).flatten := by
  have hk : ∀ cs ∈ ys.map e.f, cs.length = e.k := fun cs hcs => by obtain ⟨x, _, rfl⟩ := List.mem_map.1 hcs; exact e.len x
  intro i x hx j u hu
  exact flat_at hk i (e.f x) (by rw [List.getElem?_map, hx]; rfl) j u hu
theorem flat_length (ys : List α) : (ys.map e.f).flatten.length = ys.length * e.k := by
  have hk : ∀ cs ∈ ys.map e.f, cs.length = e.k := fun cs hcs => by obtain ⟨x, _, rfl⟩ := List.mem_map.1 hcs; exact e.len x
  rw [flat_len hk, List.length_map]
theorem flat_one (ys : List α) : ∀ u ∈ (ys.map e.f).flatten, u.oneCell' = true := by
  intro u hu
  obtain ⟨cs, hcs, hu2⟩ := List.mem_flatten.1 hu
  obtain ⟨x, _, rfl⟩ := List.mem_map.1 hcs
  exact e.one x u hu2
/-- The cells of the elements from place i on. -/
theorem Row.cells {g cap : Nat} {xs : List α} {w : World} (h : Row e T g cap xs w) (i : Nat) : ∀ j u, ((xs.drop i).map e.f).flatten[j]? = some u → w.cell? ((⟨g, i * e.k, none⟩ : Addr).add j) = some u := by
  have hk : ∀ cs ∈ (xs.drop i).map e.f, cs.length = e.k := fun cs hcs => by obtain ⟨x, _, rfl⟩ := List.mem_map.1 hcs; exact e.len x
  intro j u hu
  obtain ⟨m, cs, j', h1, h2, rfl⟩ := flat_inv hk j u hu
  rw [List.getElem?_map] at h1
  obtain ⟨x, hx, rfl⟩ := Option.map_eq_some_iff.1 h1
  rw [List.getElem?_drop] at hx
  rw [add_eq, ← Nat.add_assoc, ← Nat.add_mul]
  exact h.cell hx h2
/-- An append in place, to the first n elements, of the elements ys. -/
theorem Row.append {P : Program} {t : TypeId} {bytes : Nat} (E : Elem P t T e.k bytes) (ty : TypeId) {g cap : Nat} {xs ys : List α} {w : World} (h : Row e T g cap xs w) {n : Nat} (hn : n ≤ xs.length) (hle : n + ys.length ≤ cap) (ad : Addr) (c : Nat)
    (hc : ∀ j u, (ys.map e.f).flatten[j]? = some u → w.cell? (ad.add j) = some u) :
    ∃ w', appRun P t ty (.slice (some ⟨g, 0, none⟩) n cap) (.slice (some ad) ys.length c) w = .ok (.slice (some ⟨g, 0, none⟩) (n + ys.length) cap) w' ∧ Row e T g cap (xs.take n ++ ys ++ xs.drop (n + ys.length)) w' ∧ w.grownBy w' (some g) := by
  obtain ⟨i, z, hi, hz, hs, hb, hzs⟩ := E.ex
  obtain ⟨cur, hg, hl, h1⟩ := h.ex
  have hfit : n * e.k + ((ys.map e.f).flatten).length ≤ cur.length := by rw [flat_length, hl, ← Nat.add_mul]; exact Nat.mul_le_mul_right _ hle
  have hr := run_append_room (P := P) w t ty T i E.ht hi g n cap cur.toArray hg ad ys.length c _ (by rw [flat_length, hs]) hc (flat_one ys) hle (by rw [hs]; simpa using hfit)
  rw [hs] at hr
  refine ⟨_, hr, ?_, setRow_grown _ _ _⟩
  have := Row.splice hg hl h1 hn hle h.le (flat_length ys) (says_flat ys)
  unfold Go.splice at this
  rw [← List.append_assoc] at this
  exact this
/-- What 'clear(v)' and 'copy(v, x)' come to: a walk does not look behind the names. -/
def clearRun (P : Program) (t ty : TypeId) (v : Value) (w : World) : Result Value := (Builtin.clear_ #[t] ty #[v]).run P w
def copyRun (P : Program) (t u ty : TypeId) (v x : Value) (w : World) : Result Value := (Builtin.copy_ #[t, u] ty #[v, x]).run P w
section
variable {P : Program} (ρ : Operand → Value) (dst : Option Tmp) (ty : TypeId) (pos : String) (after : Array Edge) (guard : Option (Nat × Bool)) (w : World)
theorem exec_clear (s : Operand) (t : TypeId) :
    (execOp ρ { dst, op := .call { callee := .builtin .clear, args := #[s], argTypes := #[t] }, type := ty, pos, after, guard }).run P w = (clearRun P t ty (ρ s) w).andThen fun v w' => .ok (.value v) w' := by
  unfold execOp clearRun
  simp only [resolve, invoke, builtin, Sem.run_bind, Sem.run_pure, List.map_toArray, List.map_cons, List.map_nil, Result.andThen_ok]
theorem exec_copy (s x : Operand) (t u : TypeId) :
    (execOp ρ { dst, op := .call { callee := .builtin .copy, args := #[s, x], argTypes := #[t, u] }, type := ty, pos, after, guard }).run P w = (copyRun P t u ty (ρ s) (ρ x) w).andThen fun v w' => .ok (.value v) w' := by
  unfold execOp copyRun
  simp only [resolve, invoke, builtin, Sem.run_bind, Sem.run_pure, List.map_toArray, List.map_cons, List.map_nil, Result.andThen_ok]
end
attribute [go_sem ↓] exec_clear exec_copy
theorem zeroCells_says {z : Array Value} {x0 : α} (hz : z.toList = e.f x0) (m : Nat) : (Builtin.zeroCells z m).toList = ((List.replicate m x0).map e.f).flatten := by
  have hzs : z.size = e.k := by rw [← e.len x0, ← hz]; simp
  have hL : (Builtin.zeroCells z m).toList.length = m * e.k := by simp [Builtin.zeroCells, hzs]
  apply List.ext_getElem?
  intro j
  by_cases hj : j < m * e.k
  · have h2 : ((List.replicate m x0).map e.f).flatten[j]? = some (((List.replicate m x0).map e.f).flatten[j]'(by rw [flat_length, List.length_replicate]; exact hj)) := List.getElem?_eq_getElem _
    have hk : ∀ cs ∈ (List.replicate m x0).map e.f, cs.length = e.k := fun cs hcs => by obtain ⟨x, _, rfl⟩ := List.mem_map.1 hcs; exact e.len x
    obtain ⟨i, cs, j', h3, h4, h5⟩ := flat_inv hk j _ h2
    rw [h2]
    rw [List.getElem?_map, List.getElem?_replicate] at h3
    split at h3
    · simp only [Option.map_some, Option.some.injEq] at h3
      subst h3
      rw [← h4]
      have hj' := get_lt h4
      have hm : j % e.k = j' := by rw [h5, Nat.mul_comm, Nat.mul_add_mod]; exact Nat.mod_eq_of_lt hj'
      rw [Array.getElem?_toList, ← hz, Array.getElem?_toList]
      simp only [Builtin.zeroCells, Array.getElem?_map, Array.getElem?_range, hzs, hj, if_true, Option.map_some, hm]
      rw [getElem!_pos z j' (by omega), Array.getElem?_eq_getElem (by omega)]
    · simp at h3
  · rw [List.getElem?_eq_none (by omega), List.getElem?_eq_none (by rw [flat_length, List.length_replicate]; omega)]
/-- 'clear' of elements behind the first ones. -/
theorem Row.clear {P : Program} {t : TypeId} {bytes : Nat} (E : Elem P t T e.k bytes) (ty : TypeId) {z : Value} (hz : ∀ w, (zeroValue T).run P w = .ok z w) {x0 : α} (hx0 : z.cells.toList = e.f x0) {g cap : Nat} {xs : List α} {w : World} (h : Row e T g cap xs w) {o m c : Nat} (ho : xs.length ≤ o) (hm : 0 < m) (hle : o + m ≤ cap) :
    ∃ w', clearRun P t ty (.slice (some ⟨g, o * e.k, none⟩) m c) w = .ok (.tuple #[]) w' ∧ Row e T g cap xs w' ∧ w.grownBy w' (some g) := by
  obtain ⟨cur, hg, hl, h1⟩ := h.ex
  have hfl : ((List.replicate m x0).map e.f).flatten.length = m * e.k := by rw [flat_length, List.length_replicate]
  have hfit : o * e.k + ((List.replicate m x0).map e.f).flatten.length ≤ cur.length := by rw [hfl, hl, ← Nat.add_mul]; exact Nat.mul_le_mul_right _ hle
  have hst := run_storeCells_at P g (o * e.k) T ((List.replicate m x0).map e.f).flatten 0 cur.toArray w hg (by simpa using hfit) (flat_one _)
  have hzc := zeroCells_says (e := e) hx0 m
  obtain ⟨m', rfl⟩ : ∃ m', m = m' + 1 := ⟨m - 1, by omega⟩
  refine ⟨_, ?_, ?_, setRow_grown w g (Go.splice cur (o * e.k) ((List.replicate (m' + 1) x0).map e.f).flatten).toArray⟩
  · unfold clearRun
    simp only [Nat.add_zero] at hst
    clear hfl hfit
    generalize ((List.replicate (m' + 1) x0).map e.f).flatten = F at hst hzc ⊢
    simp [Builtin.clear_, run_underlying E.ht, hz, hzc, hst, Go.splice]
  · refine ⟨⟨_, setRow_heap w g _ _ T (0, 0) hg, by rw [length_splice _ _ _ hfit, hl], fun i x hx j u hu => ?_⟩, h.le⟩
    have hj := get_lt hu
    have hi : i < xs.length := (List.getElem?_eq_some_iff.1 hx).1
    have hlt : i * e.k + j < o * e.k := by
      have : (i + 1) * e.k ≤ o * e.k := Nat.mul_le_mul_right _ (by omega)
      rw [Nat.add_mul, Nat.one_mul] at this; omega
    rw [splice_get hfit, if_pos hlt]
    exact h1 i x hx j u hu
/-- 'copy' into a row from its place o on. -/
theorem Row.copy {P : Program} {t u : TypeId} {bytes : Nat} (E : Elem P t T e.k bytes) (ty : TypeId) {g cap : Nat} {xs ys : List α} {w : World} (h : Row e T g cap xs w) {o dl dc : Nat} (ho : o ≤ xs.length) (hd : ys.length ≤ dl) (hle : o + ys.length ≤ cap) (ad : Addr) (c : Nat)
    (hc : ∀ j u, (ys.map e.f).flatten[j]? = some u → w.cell? (ad.add j) = some u) :
    ∃ w', copyRun P t u ty (.slice (some ⟨g, o * e.k, none⟩) dl dc) (.slice (some ad) ys.length c) w = .ok (.int .i64 (ys.length : Nat)) w' ∧ Row e T g cap (xs.take o ++ ys ++ xs.drop (o + ys.length)) w' ∧ w.grownBy w' (some g) := by
  obtain ⟨i, z, hi, hz, hs, hb, hzs⟩ := E.ex
  obtain ⟨cur, hg, hl, h1⟩ := h.ex
  have hfit : o * e.k + ((ys.map e.f).flatten).length ≤ cur.length := by rw [flat_length, hl, ← Nat.add_mul]; exact Nat.mul_le_mul_right _ hle
  have hst := run_storeCells_at P g (o * e.k) T (ys.map e.f).flatten 0 cur.toArray w hg (by simpa using hfit) (flat_one _)
  have hsp := Row.splice hg hl h1 ho hle h.le (flat_length ys) (says_flat ys)
  have hlen := flat_length (e := e) ys
  have hfc := run_firstCells_some (P := P) w i.size ys.length ad ys.length c (ys.map e.f).flatten (by rw [hlen, hs]) hc
  refine ⟨_, ?_, hsp, setRow_grown _ _ _⟩
  have hmin : Nat.min ys.length dl = ys.length := Nat.min_eq_left hd
  simp only [Nat.add_zero] at hst
  clear hsp hc hfit hlen
  generalize (ys.map e.f).flatten = F at hst hfc ⊢
  unfold copyRun
  simp [Builtin.copy_, run_underlying E.ht, Builtin.lenOf, sizeOf, typeInfo, hi, hmin, hfc, hst, Go.splice, goInt]
/-- What 'append(v, make([]T, n)...)' comes to. -/
def appzRun (P : Program) (t u ty : TypeId) (v x : Value) (w : World) : Result Value := (Builtin.append_ #[t, u] ty #[v, x]).run P w
section
variable {P : Program} (ρ : Operand → Value) (dst : Option Tmp) (ty : TypeId) (pos : String) (after : Array Edge) (guard : Option (Nat × Bool)) (w : World)
theorem exec_appz (s x : Operand) (t u : TypeId) (hne : (t == u) = false) :
    (execOp ρ { dst, op := .call { callee := .builtin .append, args := #[s, x], argTypes := #[t, u] }, type := ty, pos, after, guard }).run P w = (appzRun P t u ty (ρ s) (ρ x) w).andThen fun v w' => .ok (.value v) w' := by
  unfold execOp appzRun
  simp only [resolve, invoke, builtin, Sem.run_bind, Sem.run_pure, List.map_toArray, List.map_cons, List.map_nil, Result.andThen_ok]
end
attribute [go_sem ↓] exec_appz
/-- An append of m zero elements to the first n of a row that has no room for them. -/
theorem Row.growz {P : Program} {t u : TypeId} {bytes : Nat} {ik : IntKind} (E : Elem P t T e.k bytes) (hu : P.underlying u = some (.int ik)) (ty : TypeId) {z : Array Value} (hzv : ∀ w, (zeroValue T).run P w = .ok (.agg z) w) {x0 : α} (hx0 : z.toList = e.f x0) {g cap : Nat} {xs : List α} {w : World} (h : Row e T g cap xs w) {n m : Nat} (hn : n ≤ xs.length) (hg : cap < n + m) (h6 : n + m ≤ 1000000000) (hby : bytes ≤ 100000) :
    ∃ c' w', appzRun P t u ty (.slice (some ⟨g, 0, none⟩) n cap) (.int .i64 (m : Nat)) w = .ok (.slice (some ⟨w.heap.size, 0, none⟩) (n + m) c') w' ∧ Row e T w.heap.size c' (xs.take n ++ List.replicate m x0) w' ∧ Below w.heap.size w w' ∧ c' ≤ maxLen := by
  obtain ⟨i, z', hi, hz', hs, hb, hzs⟩ := E.ex
  have hzz : z' = .agg z := by
    have := hzv w
    simpa [zeroValue, typeInfo, hi, hz'] using this
  subst hzz
  subst hb
  have hbytes : (n + m) * i.bytes ≤ 140737488355328 := Nat.le_trans (Nat.mul_le_mul h6 hby) (by decide)
  have hmb : m * i.bytes ≤ 140737488355328 := Nat.le_trans (Nat.mul_le_mul_right _ (by omega)) hbytes
  have hcells := (h.take n).cells 0
  rw [List.drop_zero, Nat.zero_mul] at hcells
  have hl0 : (xs.take n).length = n := by rw [List.length_take]; omega
  have hf := run_firstCells_some (P := P) w.drew i.size n ⟨g, 0, none⟩ n cap ((xs.take n).map e.f).flatten (by rw [flat_length, hl0, hs]) (by simpa using hcells)
  have hne : ¬ (n + m ≤ cap) := by omega
  have h63 : ¬ (9223372036854775807 < ((n : Int) + (m : Int))) := by omega
  have hfit : Builtin.nextslicecap (n + m) cap * i.bytes ≤ 281474976710656 := growslice_fits hg hbytes
  have h48 : ¬ (281474976710656 < Builtin.nextslicecap (n + m) cap * i.bytes) := by omega
  have hw : IntKind.i64.wrap (m : Int) = m := by rw [IntKind.wrap_i64]; omega
  have hm0 : ¬ ((m : Int) < 0) := by omega
  have hmb2 : ¬ (281474976710656 < (m : Int) * (i.bytes : Int)) := by
    have : ((m * i.bytes : Nat) : Int) ≤ 140737488355328 := by omega
    rw [Int.natCast_mul] at this; omega
  have hge := grownCap_ge w (n + m) cap T
  refine ⟨grownCap w (n + m) cap T, w.drew.alloc (.cells (((xs.take n).map e.f).flatten ++ ((List.replicate m x0).map e.f).flatten ++ ((List.replicate (grownCap w (n + m) cap T - (n + m)) x0).map e.f).flatten).toArray T), ?_, ?_, ?_, grownCap_le_maxLen w (n + m) cap T (by unfold maxLen; omega)⟩
  rotate_left
  · refine ⟨⟨_, heap_alloc_new w.drew _, ?_, ?_⟩, ?_⟩
    · simp only [List.length_append, flat_length, List.length_replicate, hl0]
      rw [← Nat.add_mul, ← Nat.add_mul]; congr 1; omega
    · have := says_flat (e := e) (xs.take n ++ List.replicate m x0 ++ List.replicate (grownCap w (n + m) cap T - (n + m)) x0)
      rw [List.map_append, List.map_append, List.flatten_append, List.flatten_append] at this
      intro i' x hx j u hu
      have hi' : i' < (xs.take n ++ List.replicate m x0).length := (List.getElem?_eq_some_iff.1 hx).1
      exact this i' x (by rw [List.getElem?_append_left hi']; exact hx) j u hu
    · simp only [List.length_append, List.length_replicate, hl0]; exact hge
  · exact ((Below.refl _ _).drew).alloc (Nat.le_refl _) _
  · have hz1 := zeroCells_says (e := e) hx0 m
    have hz2 := zeroCells_says (e := e) hx0 (grownCap w (n + m) cap T - (n + m))
    have hz1' : Builtin.zeroCells z m = ((List.replicate m x0).map e.f).flatten.toArray := by rw [← hz1]
    have hz2' : Builtin.zeroCells z (grownCap w (n + m) cap T - (n + m)) = ((List.replicate (grownCap w (n + m) cap T - (n + m)) x0).map e.f).flatten.toArray := by rw [← hz2]
    have hmz : m * i.size = 0 → ((List.replicate m x0).map e.f).flatten.toArray = #[] := fun hh => by
      have : ((List.replicate m x0).map e.f).flatten.length = 0 := by rw [flat_length, List.length_replicate, ← hs]; exact hh
      rw [List.eq_nil_of_length_eq_zero this]
    clear hcells hz1 hz2
    generalize ((xs.take n).map e.f).flatten = F1 at hf ⊢
    generalize ((List.replicate m x0).map e.f).flatten = F2 at hz1' hmz ⊢
    generalize ((List.replicate (grownCap w (n + m) cap T - (n + m)) x0).map e.f).flatten = F3 at hz2' ⊢
    have hgc : (Question.appendCap (n + m) cap T).cut (w.tape w.drawn (Question.appendCap (n + m) cap T)) = grownCap w (n + m) cap T := rfl
    by_cases hmm : m * i.size = 0
    · have := hmz hmm
      simp [appzRun, Builtin.append_, run_underlying E.ht, run_underlying hu, sizeOf, typeInfo, zeroValue, hi, hz', Builtin.lenOf, hne, h63, h48, hw, hm0, hmb2, asInt, asIntOf, Question.forced, hf, newRow, hmm, Value.cells]
      rw [hgc, hz2']
      have hF2 : F2 = [] := by simpa using this
      subst hF2
      simp
    · simp [appzRun, Builtin.append_, run_underlying E.ht, run_underlying hu, sizeOf, typeInfo, zeroValue, hi, hz', Builtin.lenOf, hne, h63, h48, hw, hm0, hmb2, asInt, asIntOf, Question.forced, hf, newRow, hmm, Value.cells, hz1']
      rw [hgc, hz2']
      simp
/-- What lies in cells of other types stays where a row of the call's own is written. -/
theorem Row.keeps {B : Bs} {ts : List TypeId} {g cap : Nat} {xs : List α} {w w' : World} (h : Row e T g cap xs w) (hB : B.lo ≤ g) (hT : T ∉ ts) (hg : w.grownBy w' (some g)) : Keeps B ts w w' := by
  obtain ⟨cur, hgg, _⟩ := h.ex
  refine ⟨hg.size, fun b o hb ho => (hg.block b (Array.getElem?_eq_some_iff.1 hb).1 fun e => ?_).trans hb⟩
  obtain rfl : b = g := Option.some.inj e
  rw [hgg] at hb
  rcases ho with ho | ⟨cur', t, fr, rfl, ht, _⟩
  · omega
  · simp at hb
    exact hT (hb.2.1 ▸ ht)
theorem setCell_grown (w : World) (g o : Nat) (u : Value) : w.grownBy (w.setCell ⟨g, o, none⟩ u) (some g) := by
  refine ⟨rfl, rfl, rfl, by simp, fun i hi hne => ?_⟩
  rw [Go.Sort.setCell_eq]
  have : g ≠ i := fun e => hne (by rw [e])
  simp [Go.Sort.mapBlock, Array.getElem?_modify, this]
/-- An append to a row that has no room: a new row. -/
theorem Row.grow {P : Program} {t : TypeId} {bytes : Nat} (E : Elem P t T e.k bytes) (ty : TypeId) {z : Array Value} (hzv : ∀ w, (zeroValue T).run P w = .ok (.agg z) w) {x0 : α} (hx0 : z.toList = e.f x0) {g cap : Nat} {xs ys : List α} {w : World} (h : Row e T g cap xs w) (hg : cap < xs.length + ys.length) (h6 : xs.length + ys.length ≤ 1000000000) (hby : bytes ≤ 100000) (ad : Addr) (c : Nat)
    (hc : ∀ j u, (ys.map e.f).flatten[j]? = some u → w.cell? (ad.add j) = some u) :
    ∃ c' w', appRun P t ty (.slice (some ⟨g, 0, none⟩) xs.length cap) (.slice (some ad) ys.length c) w = .ok (.slice (some ⟨w.heap.size, 0, none⟩) (xs.length + ys.length) c') w' ∧ Row e T w.heap.size c' (xs ++ ys) w' ∧ Below w.heap.size w w' ∧ c' ≤ maxLen := by
  obtain ⟨i, z', hi, hz', hs, hb, hzs⟩ := E.ex
  have hzz : z' = .agg z := by
    have := hzv w
    simpa [zeroValue, typeInfo, hi, hz'] using this
  subst hzz
  subst hb
  have hbytes : (xs.length + ys.length) * i.bytes ≤ 140737488355328 := Nat.le_trans (Nat.mul_le_mul h6 hby) (by decide)
  have hcells := h.cells 0
  rw [List.drop_zero, Nat.zero_mul] at hcells
  have hr := run_append_grow (P := P) w t ty T i _ E.ht hi hz' ⟨g, 0, none⟩ xs.length cap (xs.map e.f).flatten (by rw [flat_length, hs]) hcells ad ys.length c (ys.map e.f).flatten (by rw [flat_length, hs]) hc hg (by omega) (growslice_fits hg hbytes)
  have hge := grownCap_ge w (xs.length + ys.length) cap T
  have hz2 := zeroCells_says (e := e) hx0 (grownCap w (xs.length + ys.length) cap T - (xs.length + ys.length))
  have hz2' : Builtin.zeroCells (Value.agg z).cells (grownCap w (xs.length + ys.length) cap T - (xs.length + ys.length)) = ((List.replicate (grownCap w (xs.length + ys.length) cap T - (xs.length + ys.length)) x0).map e.f).flatten.toArray := by rw [← hz2]; rfl
  rw [hz2'] at hr
  refine ⟨_, _, hr, ⟨⟨(xs.map e.f).flatten ++ (ys.map e.f).flatten ++ ((List.replicate (grownCap w (xs.length + ys.length) cap T - (xs.length + ys.length)) x0).map e.f).flatten, ?_, ?_, ?_⟩, by rw [List.length_append]; exact hge⟩, ((Below.refl _ _).drew).alloc (Nat.le_refl _) _, grownCap_le_maxLen w _ cap T (by unfold maxLen; omega)⟩
  · have := heap_alloc_new w.drew (.cells ((xs.map e.f).flatten.toArray ++ (ys.map e.f).flatten.toArray ++ ((List.replicate (grownCap w (xs.length + ys.length) cap T - (xs.length + ys.length)) x0).map e.f).flatten.toArray) T)
    simpa using this
  · simp only [List.length_append, flat_length, List.length_replicate]
    rw [← Nat.add_mul, ← Nat.add_mul]; congr 1; omega
  · have := says_flat (e := e) (xs ++ ys ++ List.replicate (grownCap w (xs.length + ys.length) cap T - (xs.length + ys.length)) x0)
    rw [List.map_append, List.map_append, List.flatten_append, List.flatten_append] at this
    intro i' x hx j u hu
    have hi' : i' < (xs ++ ys).length := (List.getElem?_eq_some_iff.1 hx).1
    exact this i' x (by rw [List.getElem?_append_left hi']; exact hx) j u hu
theorem Row.cells0 {g cap : Nat} {xs : List α} {w : World} (h : Row e T g cap xs w) : ∀ j u, (xs.map e.f).flatten[j]? = some u → w.cell? ((⟨g, 0, none⟩ : Addr).add j) = some u := by
  have := h.cells 0
  rwa [List.drop_zero, Nat.zero_mul] at this
theorem Row.apart {g cap g' : Nat} {xs : List α} {w w' : World} (h : Row e T g cap xs w) (hg : w.grownBy w' (some g')) (hne : g ≠ g') : Row e T g cap xs w' :=
  h.block (hg.block g h.lt (by simpa using hne))
end
end Go.Proofs.Ytfnmmknbjfmagaa.Ro
