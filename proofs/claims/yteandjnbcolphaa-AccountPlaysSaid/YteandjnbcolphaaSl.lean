/- Slices of structs, of k cells an element, as lists: as they came in, as a call hands them on, as a call's own. Of no program. -/
import Derived.Test.YteandjnbcolphaaRw
import Derived.Laws.AppendOwn
namespace Go.Proofs.Yteandjnbcolphaa.Sl
open Go.RowKit
set_option linter.unusedVariables false
section
variable {α : Type} (enc : α → List Value) (k : Nat)
/-- At block b, from cell off on, lie the elements of l. -/
def At (l : List α) (b off : Nat) (w : World) : Prop := b < w.heap.size ∧ ∀ i x, l[i]? = some x → ∀ j u, (enc x)[j]? = some u → w.cell? ⟨b, off + i * k + j, none⟩ = some u
/-- v is a slice of which l is what it holds. -/
def SL (l : List α) (v : Value) (w : World) : Prop := ∃ a c, v = .slice a l.length c ∧ (l = [] ∨ ∃ b off, a = some ⟨b, off, none⟩ ∧ At enc k l b off w)
theorem At.stays {l : List α} {b off : Nat} {w w' : World} (h : At enc k l b off w) (hb : Below w.heap.size w w') : At enc k l b off w' :=
  ⟨Nat.lt_of_lt_of_le h.1 hb.size, fun i x hx j u hu => by rw [hb.cell (p := ⟨b, off + i * k + j, none⟩) h.1]; exact h.2 i x hx j u hu⟩
theorem SL.stays (l : List α) (v : Value) (w w' : World) (h : SL enc k l v w) (hb : Below w.heap.size w w') : SL enc k l v w' := by
  obtain ⟨a, c, hv, h⟩ := h
  refine ⟨a, c, hv, ?_⟩
  rcases h with h | ⟨b, off, ha, h⟩
  · exact .inl h
  · exact .inr ⟨b, off, ha, h.stays enc k hb⟩
theorem SL.nil (w : World) : SL enc k [] (.slice none 0 0) w := ⟨none, 0, rfl, .inl rfl⟩
theorem SL.empty (a : Option Addr) (c : Nat) (w : World) : SL enc k [] (.slice a 0 c) w := ⟨a, c, rfl, .inl rfl⟩
theorem SL.mk {l : List α} {b off c : Nat} {w : World} (h : At enc k l b off w) : SL enc k l (.slice (some ⟨b, off, none⟩) l.length c) w := ⟨_, c, rfl, .inr ⟨b, off, rfl, h⟩⟩
/-- Empty, or written out. -/
theorem SL.cases {l : List α} {v : Value} {w : World} (h : SL enc k l v w) : (l = [] ∧ ∃ a c, v = .slice a 0 c) ∨ (l ≠ [] ∧ ∃ b off c, v = .slice (some ⟨b, off, none⟩) l.length c ∧ At enc k l b off w) := by
  obtain ⟨a, c, hv, h⟩ := h
  by_cases e : l = []
  · subst e; exact .inl ⟨rfl, a, c, hv⟩
  · rcases h with h | ⟨b, off, rfl, h⟩
    · exact absurd h e
    · exact .inr ⟨e, b, off, c, hv, h⟩
theorem flat_len {l : List α} (hk : ∀ x, (enc x).length = k) : (l.flatMap enc).length = l.length * k := by
  induction l with
  | nil => simp
  | cons x l ih => rw [List.flatMap_cons, List.length_append, hk, ih, List.length_cons, Nat.add_mul, Nat.one_mul, Nat.add_comm]
theorem flat_at {l : List α} (hk : ∀ x, (enc x).length = k) : ∀ (i : Nat) (x : α), l[i]? = some x → ∀ j u, (enc x)[j]? = some u → (l.flatMap enc)[i * k + j]? = some u := by
  induction l with
  | nil => intro i x hx; simp at hx
  | cons y l ih =>
    intro i x hx j u hu
    have hj : j < (enc x).length := by
      rcases Nat.lt_or_ge j (enc x).length with h | h
      · exact h
      · rw [List.getElem?_eq_none h] at hu; cases hu
    rw [List.flatMap_cons]
    cases i with
    | zero =>
      obtain rfl : y = x := by simpa using hx
      rw [Nat.zero_mul, Nat.zero_add, List.getElem?_append_left hj]; exact hu
    | succ i =>
      have e : (i + 1) * k + j = (enc y).length + (i * k + j) := by rw [hk y, Nat.add_mul, Nat.one_mul]; omega
      rw [e, List.getElem?_append_right (by omega), Nat.add_sub_cancel_left]
      exact ih i x (by simpa using hx) j u hu
/-- A slice of the call's own. -/
theorem SL.own {w : World} {base : Nat} {e : TypeId} {v : Value} {n : Nat} {l : List α} (hk : ∀ x, (enc x).length = k) (h0 : 0 < k) (h : w.ownsRow base e k v n (l.flatMap enc)) : n = l.length ∧ SL enc k l v w := by
  have hn : n = l.length := by
    have h1 := h.1
    rw [flat_len enc k hk] at h1
    exact (Nat.eq_of_mul_eq_mul_right h0 h1).symm
  subst hn
  refine ⟨rfl, ?_⟩
  rcases h.2 with ⟨rfl, h1⟩ | ⟨g, cap, cur, rfl, _, hg, hnc, _, hcs, ht⟩
  · have e : l = [] := List.eq_nil_of_length_eq_zero h1
    subst e
    exact SL.nil enc k w
  · refine SL.mk enc k ⟨(Array.getElem?_eq_some_iff.1 hg).1, fun i x hx j u hu => ?_⟩
    have hf := flat_at enc k hk i x hx j u hu
    rw [← ht] at hf
    rw [Nat.zero_add]
    simp only [World.cell?, hg]
    have hlt : i * k + j < l.length * k := by
      rcases Nat.lt_or_ge (i * k + j) (l.length * k) with h | h
      · exact h
      · rw [List.getElem?_take, if_neg (by omega)] at hf; cases hf
    rw [List.getElem?_take, if_pos hlt] at hf
    simpa using hf
theorem flat_snoc (l : List α) (x : α) : (l ++ [x]).flatMap enc = l.flatMap enc ++ enc x := by simp [List.flatMap_append]
theorem take_snoc {l : List α} {i : Nat} (h : i < l.length) : l.take (i + 1) = l.take i ++ [l[i]] := List.take_succ_eq_append_getElem h
end
end Go.Proofs.Yteandjnbcolphaa.Sl
