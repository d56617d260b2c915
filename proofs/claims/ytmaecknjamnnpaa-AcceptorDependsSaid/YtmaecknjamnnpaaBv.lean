/- A variable in a block of its own: what lies in it, whatever its cells are. Of no program. -/
import Derived.Test.YtmaecknjamnnpaaRw
import Derived.Lib.Hide
import Derived.Deep.MidRow
namespace Go.Proofs.Ytmaecknjamnnpaa.Bv
open Go.RowKit
set_option linter.unusedVariables false
open Go.Proofs.Ytmaecknjamnnpaa.Rw
theorem low_setCell {w : World} {b n : Nat} (o : Nat) (v : Value) (h : n ≤ b) : Below n w (w.setCell ⟨b, o, none⟩ v) :=
  ⟨rfl, rfl, rfl, by simp [World.setCell], fun i hi => Below.heap_setCell w ⟨b, o, none⟩ v i (by show i ≠ b; omega)⟩
theorem low_setRow {w : World} {b n : Nat} (c : Array Value) (h : n ≤ b) : Below n w (w.setRow b c) := below_setRow (Below.refl _ _) h c
/-- Block b is a variable of type t with these cells. -/
def Bx (w : World) (b : Nat) (cs : Array Value) (t : TypeId) : Prop := w.heap[b]? = some (.cells cs t (0, 0))
section
variable {w w' : World} {b b' : Nat} {cs c : Array Value} {t t' : TypeId}
theorem Bx.lt (h : Bx w b cs t) : b < w.heap.size := (Array.getElem?_eq_some_iff.1 h).1
theorem Bx.stays (h : Bx w b cs t) (k : Below w.heap.size w w') : Bx w' b cs t := (k.block b h.lt).trans h
theorem Bx.low {n : Nat} (h : Bx w b cs t) (k : Below n w w') (hb : b < n) : Bx w' b cs t := (k.block b hb).trans h
theorem Bx.new (w : World) (cs : Array Value) (t : TypeId) : Bx (w.alloc (.cells cs t)) w.heap.size cs t := heap_alloc_new w _
theorem Bx.alloc (h : Bx w b cs t) (o : Obj) : Bx (w.alloc o) b cs t := h.stays (below1 _ _)
theorem Bx.at {w : World} {b : Nat} (h : b = w.heap.size) (cs : Array Value) (t : TypeId) : Bx (w.alloc (.cells cs t)) b cs t := by subst h; exact Bx.new w cs t
theorem Bx.row (h : Bx w b cs t) : row w b = cs := by unfold Rw.row; rw [h]
theorem Bx.plain (h : Bx w b cs t) {n : Nat} (hn : cs.size = n) : plain n w b = true := by unfold Rw.plain; rw [h]; simp [hn]
theorem Bx.cell (h : Bx w b cs t) (k : Nat) : w.cell? ⟨b, k, none⟩ = cs[k]? := by simp [World.cell?, show w.heap[b]? = _ from h]
theorem Bx.thawed (h : Bx w b cs t) (k : Nat) : w.frozen? ⟨b, k, none⟩ = false := by simp [World.frozen?, show w.heap[b]? = _ from h]
theorem Bx.set (h : Bx w b cs t) (k : Nat) (v : Value) : Bx (w.setCell ⟨b, k, none⟩ v) b (cs.setIfInBounds k v) t := by
  unfold Bx; simp only [World.setCell, Array.getElem?_modify, if_true, show w.heap[b]? = _ from h]; rfl
theorem Bx.put (h : Bx w b cs t) (c : Array Value) : Bx (w.setRow b c) b c t := setRow_heap w b cs c t _ h
theorem Bx.set' (h : Bx w b cs t) (hb : b ≠ b') (k : Nat) (v : Value) : Bx (w.setCell ⟨b', k, none⟩ v) b cs t := (Below.heap_setCell w ⟨b', k, none⟩ v b hb).trans h
theorem Bx.put' (h : Bx w b cs t) (hb : b ≠ b') (c : Array Value) : Bx (w.setRow b' c) b cs t := (setRow_other w b' b c hb).trans h
theorem Bx.there (h : Bx w b cs t) {o n : Nat} (hn : o + n ≤ cs.size) : w.there b o n := fun j hj => ⟨by rw [h.cell, Array.getElem?_eq_getElem (by omega)]; rfl, h.thawed _⟩
end
/-- Cells written from o on. -/
def over (cs : Array Value) (o : Nat) : List Value → Array Value
  | [] => cs
  | v :: r => over (cs.setIfInBounds o v) (o + 1) r
theorem Bx.sets {w : World} {b : Nat} {t : TypeId} : ∀ (vs : List Value) (o : Nat) (w : World) (cs : Array Value), Bx w b cs t → Bx (w.setCells b o vs) b (over cs o vs) t
  | [], _, _, _, h => h
  | v :: r, o, w, cs, h => Bx.sets (w := w) r (o + 1) _ _ (h.set o v)
theorem Bx.sets' {b b' : Nat} {t : TypeId} {cs : Array Value} (hb : b ≠ b') : ∀ (vs : List Value) (o : Nat) (w : World), Bx w b cs t → Bx (w.setCells b' o vs) b cs t
  | [], _, _, h => h
  | v :: r, o, w, h => Bx.sets' hb r (o + 1) _ (h.set' hb o v)
theorem low_setCells {b n : Nat} (h : n ≤ b) : ∀ (vs : List Value) (o : Nat) (w : World), Below n w (w.setCells b o vs)
  | [], _, _ => Below.refl _ _
  | v :: r, o, w => (low_setCell o v h).trans (low_setCells h r (o + 1) (w.setCell ⟨b, o, none⟩ v))
def thereOf (w : World) : Value → Nat → Prop
  | .pointer (some ⟨b, o, none⟩), n => w.there b o n
  | _, _ => False
def putMid (w : World) : Value → Array Value → World
  | .pointer (some ⟨b, o, none⟩), cs => w.setCells b o cs.toList
  | _, _ => w
theorem thereOf_at (w : World) (b o n : Nat) : thereOf w (.pointer (some ⟨b, o, none⟩)) n = w.there b o n := rfl
theorem putMid_at (w : World) (b o : Nat) (cs : Array Value) : putMid w (.pointer (some ⟨b, o, none⟩)) cs = w.setCells b o cs.toList := rfl
attribute [go_sem] thereOf_at putMid_at
/-- A struct is stored into the middle of a row. -/
theorem storeMid {P : Program} {T : TypeId} {n : Nat} (hi : (P.info? T).map (·.size) = some n) (ρ : Operand → Value) (dst : Option Tmp) (ty : TypeId) (pos : String) (after : Array Edge) (guard : Option (Nat × Bool)) (w : World) (p x : Operand) (h : thereOf w (ρ p) n) (hs : (ρ x).cells.size = n) (h1 : oneAll (ρ x) = true) (ha : ρ x = .agg (ρ x).cells) :
    (execOp ρ { dst, op := .store T p x, type := ty, pos, after, guard }).run P w = .ok .skip (putMid w (ρ p) (ρ x).cells) := by
  generalize hp : ρ p = Q at h ⊢
  generalize hv : ρ x = X at hs h1 ha ⊢
  match Q, h with
  | .pointer (some ⟨b, o, none⟩), h =>
    have := run_storeAt_mid (P := P) w b o T X.cells (by rw [hs]; exact h) (by rw [hs]; exact hi) h1
    rw [← ha] at this
    simp [execOp, hp, hv, this, putMid_at]
end Go.Proofs.Ytmaecknjamnnpaa.Bv
