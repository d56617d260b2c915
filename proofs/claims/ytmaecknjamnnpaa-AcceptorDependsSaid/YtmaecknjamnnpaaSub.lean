/- Parts of a slice: 's[:k]' and 's[k:]'. Of no program. -/
import Derived.Test.YtmaecknjamnnpaaDa
import Derived.WalkKit
namespace Go.Proofs.Ytmaecknjamnnpaa.Da
open Go.RowKit
set_option linter.unusedVariables false
/-- Not longer than its capacity. -/
def capOk : Value → Prop
  | .slice _ n c => n ≤ c
  | _ => False
def cutHi (s k : Nat) : Value → Value
  | .slice a _ c => .slice (if c = 0 then a else a.map (·.add (0 * s))) (k - 0) (c - 0)
  | v => v
def cutLo (s k : Nat) : Value → Value
  | .slice a n c => .slice (if c = k then a else a.map (·.add (k * s))) (n - k) (c - k)
  | v => v
theorem add_at (b off j : Nat) : (⟨b, off, none⟩ : Addr).add j = ⟨b, off + j, none⟩ := by
  unfold Addr.add
  split
  · rename_i h; rw [h]; rfl
  · rfl
section
variable {α : Type} {e : Enc α} {T : TypeId}
theorem Own.cap {B : Bs} {Bo : Nat} {l : List α} {v : Value} {w : World} (h : Own e T B Bo l v w) : capOk v := by
  obtain ⟨css, _, _, _, hr⟩ := h
  rcases hr with ⟨rfl, _⟩ | ⟨g, c, cur, rfl, _, _, hc, _⟩
  · exact Nat.le_refl 0
  · exact hc
theorem Is.cutHi {B : Bs} {l : List α} {v : Value} {w : World} (h : Is e T B l v w) {k : Nat} (hk : k ≤ l.length) : Is e T B (l.take k) (cutHi e.k k v) w := by
  obtain ⟨a, c, rfl, h⟩ := h
  have hl : (l.take k).length = k := by rw [List.length_take]; omega
  refine ⟨_, _, by unfold Da.cutHi; rw [hl, Nat.sub_zero], ?_⟩
  rcases h with ⟨rfl, hc⟩ | ⟨b, off, rfl, h1, h2, h3⟩
  · left
    refine ⟨by simp, fun ha => ?_⟩
    cases a with
    | none => simp [hc rfl]
    | some a => split at ha <;> simp at ha
  · right
    refine ⟨b, off, ?_, h1, h2, fun i x hx => ?_⟩
    · split
      · rfl
      · simp [add_at]
    · rw [List.getElem?_take] at hx
      split at hx
      · exact h3 i x hx
      · cases hx
theorem Is.cutLo {B : Bs} {l : List α} {v : Value} {w : World} (h : Is e T B l v w) (hc : capOk v) {k : Nat} (hk : k ≤ l.length) : Is e T B (l.drop k) (cutLo e.k k v) w := by
  obtain ⟨a, c, rfl, h⟩ := h
  have hc : l.length ≤ c := hc
  have hl : (l.drop k).length = l.length - k := List.length_drop
  refine ⟨_, _, by unfold Da.cutLo; rw [hl], ?_⟩
  rcases h with ⟨rfl, hc0⟩ | ⟨b, off, rfl, h1, h2, h3⟩
  · left
    refine ⟨by simp, fun ha => ?_⟩
    cases a with
    | none => simp [hc0 rfl]
    | some a => split at ha <;> simp at ha
  · by_cases e0 : c = k
    · left
      refine ⟨List.drop_eq_nil_of_le (by omega), fun ha => ?_⟩
      rw [if_pos e0] at ha; cases ha
    · right
      refine ⟨b, off + k * e.k, by rw [if_neg e0]; simp [add_at], h1, h2, fun i x hx => ?_⟩
      rw [List.getElem?_drop] at hx
      obtain ⟨cs, hR, hu⟩ := h3 (k + i) x hx
      refine ⟨cs, hR, fun j u hj => ?_⟩
      have := hu j u hj
      rw [show off + k * e.k + i * e.k + j = off + (k + i) * e.k + j by rw [Nat.add_mul]; omega]
      exact this
theorem capOk_len {B : Bs} {l : List α} {v : Value} {w : World} (h : Is e T B l v w) (hc : capOk v) : ∃ a c, v = .slice a l.length c ∧ l.length ≤ c := by
  obtain ⟨a, c, rfl, _⟩ := h
  exact ⟨a, c, rfl, hc⟩
variable {P : Program} {t : TypeId} {k bytes : Nat} (ρ : Operand → Value) (dst : Option Tmp) (ty : TypeId) (pos : String) (after : Array Edge) (guard : Option (Nat × Bool)) (w : World)
theorem exec_cutHi (E : Elem P t T k bytes) (x y : Operand) {a : Option Addr} {n c m : Nat} (hx : ρ x = .slice a n c) (hy : ρ y = .int .i64 (m : Nat)) (hm : m ≤ c) :
    (execOp ρ { dst, op := .slice t x none (some y) none, type := ty, pos, after, guard }).run P w = .ok (.value (Da.cutHi k m (.slice a n c))) w := by
  obtain ⟨i, z, hi, hz, hs, hb, hzs⟩ := E.ex
  have hm0 : (0 : Int) ≤ m := by omega
  simp [execOp, hx, hy, Instr.sliceAt, Instr.slice, Instr.sliceBounds, Instr.sliceBound, asIntOf, run_underlying E.ht, sizeOf, typeInfo, hi, hm0, Da.cutHi]
  intro hh; omega
theorem exec_cutLo (E : Elem P t T k bytes) (x y : Operand) {a : Option Addr} {n c m : Nat} (hx : ρ x = .slice a n c) (hy : ρ y = .int .i64 (m : Nat)) (hm : m ≤ n) :
    (execOp ρ { dst, op := .slice t x (some y) none none, type := ty, pos, after, guard }).run P w = .ok (.value (Da.cutLo k m (.slice a n c))) w := by
  obtain ⟨i, z, hi, hz, hs, hb, hzs⟩ := E.ex
  have hm0 : (0 : Int) ≤ m := by omega
  simp [execOp, hx, hy, Instr.sliceAt, Instr.slice, Instr.sliceBounds, Instr.sliceBound, asIntOf, run_underlying E.ht, sizeOf, typeInfo, hi, hs, hm0, Da.cutLo]
  intro hh; omega
def natOf : Value → Nat
  | .int _ i => i.toNat
  | _ => 0
def hiOk : Value → Value → Bool
  | .slice _ _ c, .int .i64 i => decide (0 ≤ i ∧ i ≤ c)
  | _, _ => false
def loOk : Value → Value → Bool
  | .slice _ n _, .int .i64 i => decide (0 ≤ i ∧ i ≤ n)
  | _, _ => false
theorem hiOk_at (a : Option Addr) (n c m : Nat) : hiOk (.slice a n c) (.int .i64 (m : Nat)) = decide (m ≤ c) := by simp [hiOk]
theorem loOk_at (a : Option Addr) (n c m : Nat) : loOk (.slice a n c) (.int .i64 (m : Nat)) = decide (m ≤ n) := by simp [loOk]
theorem natOf_at (k : IntKind) (m : Nat) : natOf (.int k (m : Nat)) = m := rfl
theorem exec_hi (E : Elem P t T k bytes) (x y : Operand) (h : hiOk (ρ x) (ρ y) = true) :
    (execOp ρ { dst, op := .slice t x none (some y) none, type := ty, pos, after, guard }).run P w = .ok (.value (Da.cutHi k (natOf (ρ y)) (ρ x))) w := by
  generalize hx : ρ x = X at h ⊢
  generalize hy : ρ y = Y at h ⊢
  match X, Y, h with
  | .slice a n c, .int .i64 i, h =>
    have h := of_decide_eq_true h
    obtain ⟨m, rfl⟩ : ∃ m : Nat, i = m := ⟨i.toNat, by omega⟩
    exact exec_cutHi (m := m) ρ dst ty pos after guard w E x y hx hy (by omega)
theorem exec_lo (E : Elem P t T k bytes) (x y : Operand) (h : loOk (ρ x) (ρ y) = true) :
    (execOp ρ { dst, op := .slice t x (some y) none none, type := ty, pos, after, guard }).run P w = .ok (.value (Da.cutLo k (natOf (ρ y)) (ρ x))) w := by
  generalize hx : ρ x = X at h ⊢
  generalize hy : ρ y = Y at h ⊢
  match X, Y, h with
  | .slice a n c, .int .i64 i, h =>
    have h := of_decide_eq_true h
    obtain ⟨m, rfl⟩ : ∃ m : Nat, i = m := ⟨i.toNat, by omega⟩
    exact exec_cutLo (m := m) ρ dst ty pos after guard w E x y hx hy (by omega)
end
attribute [go_sem] hiOk_at loOk_at natOf_at
end Go.Proofs.Ytmaecknjamnnpaa.Da
