/- Elements that were read each for itself make a list. Of no program. -/
import Derived.Test.YtmaecknjamnnpaaDa
namespace Go.Proofs.Ytmaecknjamnnpaa.Da
open Go.RowKit
set_option linter.unusedVariables false
open Go.Proofs.Ytmaecknjamnnpaa.Rw
theorem add_eqD (b off j : Nat) : (⟨b, off, none⟩ : Addr).add j = ⟨b, off + j, none⟩ := by
  unfold Addr.add
  split
  · rename_i h; rw [h]; rfl
  · rfl
theorem cell_blockD {w : World} {p : Addr} {v : Value} (h : w.cell? p = some v) : p.block < w.heap.size := by
  apply Nat.lt_of_not_le
  intro hc
  have : w.heap[p.block]? = none := Array.getElem?_eq_none hc
  unfold World.cell? at h
  simp [this] at h
/-- Elements that were read each for itself make a list. -/
theorem is_of {α : Type} [Inhabited α] (e : Enc α) (T : TypeId) (h0 : 0 < e.k) (w : World) (a : Addr) (len c : Nat) (good : α → Prop)
    (h : ∀ i, i < len → ∃ x cs, good x ∧ e.R (Bs.of w.heap.size) x cs w ∧ ∀ j u, cs[j]? = some u → w.cell? ((a.add (i * e.k)).add j) = some u) : ∃ l, Is e T (Bs.of w.heap.size) l (.slice (some a) len c) w ∧ l.length = len ∧ ∀ x ∈ l, good x := by
  classical
  have hg : ∀ i, ∃ x, i < len → good x ∧ ∃ cs, e.R (Bs.of w.heap.size) x cs w ∧ ∀ j u, cs[j]? = some u → w.cell? ((a.add (i * e.k)).add j) = some u := fun i => by
    by_cases hi : i < len
    · obtain ⟨x, cs, h1, h2, h3⟩ := h i hi; exact ⟨x, fun _ => ⟨h1, cs, h2, h3⟩⟩
    · exact ⟨default, fun e => absurd e hi⟩
  let f := fun i => Classical.choose (hg i)
  have hf : ∀ i, i < len → good (f i) ∧ ∃ cs, e.R (Bs.of w.heap.size) (f i) cs w ∧ ∀ j u, cs[j]? = some u → w.cell? ((a.add (i * e.k)).add j) = some u := fun i => Classical.choose_spec (hg i)
  have hlen : ((List.range len).map f).length = len := by simp
  refine ⟨(List.range len).map f, ⟨some a, c, by rw [hlen], ?_⟩, hlen, fun x hx => ?_⟩
  · by_cases e0 : len = 0
    · left; subst e0; exact ⟨rfl, fun e => by cases e⟩
    · right
      obtain ⟨_, cs, hR, hu⟩ := hf 0 (by omega)
      have h1 : 0 < cs.length := by rw [e.len hR]; exact h0
      have h2 := hu 0 _ (List.getElem?_eq_getElem h1)
      have h3 := World.cell?_spot h2
      obtain ⟨b, off, spot⟩ := a
      obtain rfl : spot = none := by simpa [Addr.add] using h3
      have h4 := cell_blockD h2
      rw [add_eqD, add_eqD] at h4
      refine ⟨b, off, rfl, h4, .inl h4, fun i x hx => ?_⟩
      have hi : i < len := by
        rcases Nat.lt_or_ge i len with h | h
        · exact h
        · rw [List.getElem?_eq_none (by rw [hlen]; exact h)] at hx; cases hx
      have e2 : f i = x := by simpa [hi] using hx
      subst e2
      obtain ⟨_, ds, hR2, hu2⟩ := hf i hi
      refine ⟨ds, hR2, fun j u hj => ?_⟩
      have := hu2 j u hj
      rwa [add_eqD, add_eqD] at this
  · obtain ⟨i, hi, rfl⟩ := List.mem_map.1 hx
    exact (hf i (List.mem_range.1 hi)).1
end Go.Proofs.Ytmaecknjamnnpaa.Da
