/- Vectors of seven numbers, as functions of the replica. -/
import Derived.Test.YtnnbjhpkgndclaaGreatDoorQsZZ
import Derived.Lib.Hide
set_option linter.unusedVariables false
namespace Go.Proofs.YtnnbjhpkgndclaaGreatDoor.Ve
def zeroV : Nat → Int := fun _ => 0
def upd (f : Nat → Int) (k : Nat) (x : Int) : Nat → Int := fun i => if i = k then x else f i
def maxV (a b : Nat → Int) : Nat → Int := fun i => max (a i) (b i)
def mixV (a b : Nat → Int) (k : Nat) : Nat → Int := fun i => if i < k then max (a i) (b i) else a i
def eqV (a b : Nat → Int) : Bool := (List.range 7).all fun i => decide (a i = b i)
def undB (a b : Nat → Int) : Bool := (List.range 7).all fun i => decide (a i ≤ b i)
def fullTo (k : Nat) : Nat → Int := fun i => if i < k then 400 else 0
def okAt (v : Nat → Int) (n : Int) (i : Nat) : Bool := decide (0 ≤ v i ∧ v i ≤ 400 ∧ (n ≤ i → v i = 0))
def rightB (v : Nat → Int) (n : Int) : Bool := decide (1 ≤ n ∧ n ≤ 7) && (List.range 7).all (okAt v n)
theorem rightB_iff {v : Nat → Int} {n : Int} : rightB v n = true ↔ (1 ≤ n ∧ n ≤ 7) ∧ ∀ i,i < 7 → okAt v n i = true := by simp [rightB]
theorem mix_zero (a b : Nat → Int) : mixV a b 0 = a := by funext i;simp [mixV]
theorem mix_at (a b : Nat → Int) (k : Nat) : mixV a b k k = a k := by simp [mixV]
theorem max_if (x y : Int) : (if x < y then y else x) = max x y := by split <;> omega
theorem mix_succ (a b : Nat → Int) (k : Nat) : upd (mixV a b k) k (if a k < b k then b k else a k) = mixV a b (k + 1) := by
  rw [max_if]
  funext i
  unfold upd mixV
  by_cases h : i = k
  · subst h;simp
  · by_cases h2 : i < k
    · simp [h,h2,show i < k + 1 by omega]
    · simp [h,h2,show ¬ i < k + 1 by omega]
theorem mix_all (a b : Nat → Int) : ∀ i,i < 7 → mixV a b 7 i = maxV a b i := fun i h => by simp [mixV,maxV,h]
theorem full_zero : fullTo 0 = zeroV := by funext i;simp [fullTo,zeroV]
theorem full_succ (k : Nat) : upd (fullTo k) k 400 = fullTo (k + 1) := by
  funext i
  unfold upd fullTo
  by_cases h : i = k
  · subst h;simp
  · by_cases h2 : i < k
    · simp [h,h2,show i < k + 1 by omega]
    · simp [h,h2,show ¬ i < k + 1 by omega]
theorem eqV_iff {a b : Nat → Int} : eqV a b = true ↔ ∀ i,i < 7 → a i = b i := by simp [eqV]
theorem undB_iff {a b : Nat → Int} : undB a b = true ↔ ∀ i,i < 7 → a i ≤ b i := by simp [undB]
theorem max_under (a b : Nat → Int) : eqV (maxV a b) b = undB a b := by
  rw [Bool.eq_iff_iff,eqV_iff,undB_iff]
  refine ⟨fun h i hi => ?_,fun h i hi => ?_⟩
  · have := h i hi;unfold maxV at this;omega
  · have := h i hi;unfold maxV;omega
theorem right_under {v : Nat → Int} {n : Int} (h : 1 ≤ n ∧ n ≤ 7) : (undB zeroV v && undB v (fullTo n.toNat)) = rightB v n := by
  rw [Bool.eq_iff_iff,Bool.and_eq_true,undB_iff,undB_iff,rightB_iff]
  refine ⟨fun x => ⟨h,fun i hi => ?_⟩,fun x => ⟨fun i hi => ?_,fun i hi => ?_⟩⟩
  · have h1 := x.1 i hi
    have h2 := x.2 i hi
    unfold okAt
    rw [decide_eq_true_eq]
    simp only [zeroV,fullTo] at h1 h2
    split at h2 <;> omega
  · have := x.2 i hi
    unfold okAt at this
    rw [decide_eq_true_eq] at this
    exact this.1
  · have := x.2 i hi
    unfold okAt at this
    rw [decide_eq_true_eq] at this
    unfold fullTo
    split <;> omega
theorem right_no {v : Nat → Int} {n : Int} (h : ¬ (1 ≤ n ∧ n ≤ 7)) : rightB v n = false := by
  rw [Bool.eq_false_iff];exact fun x => h (rightB_iff.1 x).1
theorem right_bad {v : Nat → Int} {n : Int} {k : Nat} (hk : k < 7) (h : okAt v n k = false) : rightB v n = false := by
  rw [Bool.eq_false_iff]
  intro x
  have := (rightB_iff.1 x).2 k hk
  rw [h] at this;cases this
theorem okAt_iff {v : Nat → Int} {n : Int} {k : Nat} : okAt v n k = true ↔ (0 ≤ v k ∧ v k ≤ 400 ∧ (n ≤ k → v k = 0)) := by unfold okAt;exact decide_eq_true_iff
theorem okAt_no {v : Nat → Int} {n : Int} {k : Nat} (h : ¬ (0 ≤ v k ∧ v k ≤ 400 ∧ (n ≤ k → v k = 0))) : okAt v n k = false := by
  rw [Bool.eq_false_iff];exact fun x => h (okAt_iff.1 x)
end Go.Proofs.YtnnbjhpkgndclaaGreatDoor.Ve
