/- Of no program: the stores at the end of a region that draws, in whatever order. -/
import Derived.Test.YtmaecknjamnnpaaRh
namespace Go.Proofs.Ytmaecknjamnnpaa.Rh
open Go.RowKit
set_option linter.unusedVariables false
section
variable {P : Program} {ops : Array Oper} {Q : Exit → Act → World → Prop} {md : Region.Mode} {S : World → Prop} {a : Act}
def setF (f : Nat → Bool) (i : Nat) : Nat → Bool := fun j => f j || j == i
theorem setF_at (f : Nat → Bool) (i : Nat) : setF f i i = true := by simp [setF]
theorem setF_on {f : Nat → Bool} {j : Nat} (h : f j = true) (i : Nat) : setF f i j = true := by simp [setF, h]
theorem setF_of {f : Nat → Bool} {i j : Nat} (h : j ≠ i) : setF f i j = f j := by simp [setF, h]
/-- Those of 'ps' may come up in whatever order, and no other ones. -/
def goodB (md : Region.Mode) (ops : Array Oper) : Nat → List Nat → Array Bool → Bool
  | 0, ps, listed => ps.isEmpty && (Region.ready md ops listed).isEmpty
  | n + 1, ps, listed => !(Region.ready md ops listed).isEmpty && (Region.ready md ops listed).all fun i => ps.contains i && goodB md ops n (ps.filter (· != i)) (listed.setIfInBounds i true)
theorem Any.stores (sS : Stays S) (hs : Region.noSelect ops = true) (hQ : ∀ c a d v w, Q (.panic c) (Act.put a d v) w → Q (.panic c) a w) {G : (Nat → Bool) → World → Prop} (sG : ∀ f, Stays (G f)) {all : List Nat}
    (hst : ∀ i ∈ all, ∃ o, nth ops.toList i = some o ∧ o.dst = none ∧ Region.wanted o (yielded ops a.tmps) = true ∧ ∀ f : Nat → Bool, f i = false → ∀ w, S w → G f w → ∃ w', (execOp a.eval o).run P w = .ok .skip w' ∧ S w' ∧ G (setF f i) w')
    (hend : ∀ f : Nat → Bool, (∀ i ∈ all, f i = true) → ∀ w, S w → G f w → Q .normal a w) :
    ∀ (n : Nat) (ps : List Nat) (listed : Array Bool) (f : Nat → Bool), goodB md ops n ps listed = true → (∀ i ∈ ps, i ∈ all) → (∀ i ∈ ps, f i = false) → (∀ i ∈ all, f i = true ∨ i ∈ ps) → Any P md ops Q S n listed a (G f)
  | 0, ps, listed, f, hg, _, _, hd => by
    unfold goodB at hg
    rw [Bool.and_eq_true, List.isEmpty_iff, List.isEmpty_iff] at hg
    exact ⟨hg.2, hend f fun i hi => (hd i hi).resolve_right (by rw [hg.1]; exact fun h => by cases h)⟩
  | n + 1, ps, listed, f, hg, hi, hf, hd => by
    unfold goodB at hg
    rw [Bool.and_eq_true] at hg
    obtain ⟨h1, h2⟩ := hg
    refine ⟨fun e => absurd h1 (by rw [e]; decide), fun i hr => ?_⟩
    have h3 := List.all_eq_true.1 h2 i hr
    rw [Bool.and_eq_true] at h3
    have hip : i ∈ ps := by simpa using h3.1
    obtain ⟨o, ho, hdst, hw, hv⟩ := hst i (hi i hip)
    have hput : a.put o.dst undef = a := by rw [hdst]; rfl
    have ih := Any.stores sS hs hQ sG hst hend n (ps.filter (· != i)) (listed.setIfInBounds i true) (setF f i) h3.2
      (fun j hj => hi j (List.mem_filter.1 hj).1)
      (fun j hj => by
        have := List.mem_filter.1 hj
        rw [setF_of (by simpa using this.2)]; exact hf j this.1)
      (fun j hj => by
        by_cases e : j = i
        · subst e; exact .inl (setF_at f _)
        · rcases hd j hj with h | h
          · exact .inl (setF_on h i)
          · exact .inr (List.mem_filter.2 ⟨h, by simpa using e⟩))
    have := One.store (P := P) (Q := Q) (md := md) (S := S) (ord := List.replicate n 0) (listed := listed) (a := a) (G := G f) (G (setF f i)) (sG _) ho hw (hv f (hf i hip))
      (fun _ _ _ _ => by rw [List.length_replicate, hput]; exact ih)
    have := this hs hQ sS (sG f)
    rw [List.length_replicate] at this
    exact this
/-- The stores that are left, in whatever order: G f is known of the world when those of f were done. -/
theorem Steps.stores {ps : List Nat} {listed : Array Bool} {G0 : World → Prop} (G : (Nat → Bool) → World → Prop) (sG : ∀ f, Stays (G f)) (hg : goodB md ops ps.length ps listed = true) (h0 : ∀ u, G0 u → G (fun _ => false) u)
    (hst : ∀ i ∈ ps, ∃ o, nth ops.toList i = some o ∧ o.dst = none ∧ Region.wanted o (yielded ops a.tmps) = true ∧ ∀ f : Nat → Bool, f i = false → ∀ w, S w → G f w → ∃ w', (execOp a.eval o).run P w = .ok .skip w' ∧ S w' ∧ G (setF f i) w')
    (hend : ∀ f : Nat → Bool, (∀ i ∈ ps, f i = true) → ∀ w, S w → G f w → Q .normal a w) : Steps P md ops Q S ps listed a G0 := fun hs hQ sS sG0 => by
  have := Any.stores (md := md) sS hs hQ sG hst hend ps.length ps listed (fun _ => false) hg (fun _ h => h) (fun _ _ => rfl) (fun _ h => .inr h)
  cases hn : ps.length with
  | zero =>
    rw [hn] at this
    exact ⟨this.1, fun w hS hG => this.2 w hS (h0 w hG)⟩
  | succ n =>
    rw [hn] at this
    exact ⟨fun e w hS hG => this.1 e w hS (h0 w hG), fun i hi w hS hG => this.2 i hi w hS (h0 w hG)⟩
end
end Go.Proofs.Ytmaecknjamnnpaa.Rh
