/- Vectors of seven numbers, as functions of the replica. -/
import Derived.Lib.Hide
namespace Go.Proofs.Ytoncmbglmebkiaa.Ve
def zeroV : Nat → Int := fun _ => 0
def upd (f : Nat → Int) (k : Nat) (x : Int) : Nat → Int := fun i => if i = k then x else f i
def maxV (a b : Nat → Int) : Nat → Int := fun i => max (a i) (b i)
/-- The first k numbers are the greater ones. -/
def mixV (a b : Nat → Int) (k : Nat) : Nat → Int := fun i => if i < k then max (a i) (b i) else a i
def raiseV (v : Nat → Int) (r s : Int) : Nat → Int := if 0 ≤ r ∧ r < 7 then upd v r.toNat (max (v r.toNat) s) else v
def eqV (a b : Nat → Int) : Bool := (List.range 7).all fun i => decide (a i = b i)
def undB (a b : Nat → Int) : Bool := (List.range 7).all fun i => decide (a i ≤ b i)
def covB (v : Nat → Int) (r s : Int) : Bool := decide (0 ≤ r ∧ r < 7 ∧ 1 ≤ s ∧ s ≤ v r.toNat)
def isR (r : Int) : Bool := decide (0 ≤ r ∧ r < 7)
def near (x : Int) : Int := min (max x 0) 400
def cntTo (v : Nat → Int) : Nat → Int
  | 0 => 0
  | k + 1 => cntTo v k + near (v k)
def cntV (v : Nat → Int) : Int := cntTo v 7
/-- The vector of which the first k numbers are 400. -/
def fullTo (k : Nat) : Nat → Int := fun i => if i < k then 400 else 0
/-- One number at least, of the first k, is not one of a cluster of n. -/
def okAt (v : Nat → Int) (n : Int) (i : Nat) : Bool := decide (0 ≤ v i ∧ v i ≤ 400 ∧ (n ≤ i → v i = 0))
def rightB (v : Nat → Int) (n : Int) : Bool := decide (1 ≤ n ∧ n ≤ 7) && (List.range 7).all (okAt v n)
theorem rightB_iff {v : Nat → Int} {n : Int} : rightB v n = true ↔ (1 ≤ n ∧ n ≤ 7) ∧ ∀ i, i < 7 → okAt v n i = true := by simp [rightB]
theorem mix_zero (a b : Nat → Int) : mixV a b 0 = a := by funext i; simp [mixV]
theorem mix_at (a b : Nat → Int) (k : Nat) : mixV a b k k = a k := by simp [mixV]
theorem max_if (x y : Int) : (if x < y then y else x) = max x y := by split <;> omega
theorem min_if (x y : Int) : (if y < x then y else x) = min x y := by split <;> omega
theorem mix_succ (a b : Nat → Int) (k : Nat) : upd (mixV a b k) k (if a k < b k then b k else a k) = mixV a b (k + 1) := by
  rw [max_if]
  funext i
  unfold upd mixV
  by_cases h : i = k
  · subst h; simp
  · by_cases h2 : i < k
    · simp [h, h2, show i < k + 1 by omega]
    · simp [h, h2, show ¬ i < k + 1 by omega]
theorem mix_all (a b : Nat → Int) : ∀ i, i < 7 → mixV a b 7 i = maxV a b i := fun i h => by simp [mixV, maxV, h]
theorem full_zero : fullTo 0 = zeroV := by funext i; simp [fullTo, zeroV]
theorem full_succ (k : Nat) : upd (fullTo k) k 400 = fullTo (k + 1) := by
  funext i
  unfold upd fullTo
  by_cases h : i = k
  · subst h; simp
  · by_cases h2 : i < k
    · simp [h, h2, show i < k + 1 by omega]
    · simp [h, h2, show ¬ i < k + 1 by omega]
theorem eqV_refl (a : Nat → Int) : eqV a a = true := by simp [eqV]
theorem eqV_iff {a b : Nat → Int} : eqV a b = true ↔ ∀ i, i < 7 → a i = b i := by simp [eqV]
theorem undB_iff {a b : Nat → Int} : undB a b = true ↔ ∀ i, i < 7 → a i ≤ b i := by simp [undB]
theorem max_under (a b : Nat → Int) : eqV (maxV a b) b = undB a b := by
  rw [Bool.eq_iff_iff, eqV_iff, undB_iff]
  refine ⟨fun h i hi => ?_, fun h i hi => ?_⟩
  · have := h i hi; unfold maxV at this; omega
  · have := h i hi; unfold maxV; omega
theorem max_comm (a b : Nat → Int) : maxV a b = maxV b a := by funext i; unfold maxV; omega
theorem max_self (a : Nat → Int) : maxV a a = a := by funext i; unfold maxV; omega
theorem max_assoc (a b c : Nat → Int) : maxV (maxV a b) c = maxV a (maxV b c) := by funext i; unfold maxV; omega
theorem und_left (a b : Nat → Int) : undB a (maxV a b) = true := undB_iff.2 fun i _ => by unfold maxV; omega
theorem und_right (a b : Nat → Int) : undB b (maxV a b) = true := undB_iff.2 fun i _ => by unfold maxV; omega
theorem und_trans {a b c : Nat → Int} (h : undB a b = true) (k : undB b c = true) : undB a c = true :=
  undB_iff.2 fun i hi => Int.le_trans (undB_iff.1 h i hi) (undB_iff.1 k i hi)
theorem und_anti {a b : Nat → Int} (h : undB a b = true) (k : undB b a = true) : eqV a b = true :=
  eqV_iff.2 fun i hi => Int.le_antisymm (undB_iff.1 h i hi) (undB_iff.1 k i hi)
theorem covB_iff {v : Nat → Int} {r s : Int} : covB v r s = true ↔ (0 ≤ r ∧ r < 7 ∧ 1 ≤ s ∧ s ≤ v r.toNat) := by simp [covB]
theorem covB_no {v : Nat → Int} {r s : Int} (h : ¬ (0 ≤ r ∧ r < 7 ∧ 1 ≤ s ∧ s ≤ v r.toNat)) : covB v r s = false := by
  rw [Bool.eq_false_iff]; exact fun x => h (covB_iff.1 x)
theorem cov_max (a b : Nat → Int) (r s : Int) : covB (maxV a b) r s = (covB a r s || covB b r s) := by
  rw [Bool.eq_iff_iff, Bool.or_eq_true, covB_iff, covB_iff, covB_iff]
  unfold maxV
  omega
theorem raise_in {v : Nat → Int} {r s : Int} (h : 0 ≤ r ∧ r < 7) : raiseV v r s = upd v r.toNat (max (v r.toNat) s) := if_pos h
theorem raise_out {v : Nat → Int} {r s : Int} (h : ¬ (0 ≤ r ∧ r < 7)) : raiseV v r s = v := if_neg h
theorem raise_cov {v : Nat → Int} {r s : Int} (h : 0 ≤ r ∧ r < 7) (hs : 1 ≤ s) : eqV (raiseV v r s) v = covB v r s := by
  rw [Bool.eq_iff_iff, eqV_iff, covB_iff, raise_in h]
  refine ⟨fun x => ?_, fun x i hi => ?_⟩
  · have := x r.toNat (by omega)
    simp [upd] at this
    omega
  · unfold upd
    by_cases e : i = r.toNat
    · subst e; simp; omega
    · simp [e]
theorem und_raise (v : Nat → Int) (r s : Int) : undB v (raiseV v r s) = true := by
  rw [undB_iff]
  intro i hi
  by_cases h : 0 ≤ r ∧ r < 7
  · rw [raise_in h]; unfold upd
    by_cases e : i = r.toNat
    · subst e; simp; omega
    · simp [e]
  · rw [raise_out h]; exact Int.le_refl _
theorem cov_raised {v : Nat → Int} {r s : Int} (h : 0 ≤ r ∧ r < 7) {t : Int} (h1 : 1 ≤ t) (ht : t ≤ s) : covB (raiseV v r s) r t = true := by
  rw [covB_iff, raise_in h]
  refine ⟨h.1, h.2, h1, ?_⟩
  simp [upd]; omega
theorem cov_other {v : Nat → Int} {r s q t : Int} (h : ¬ (q = r ∧ 1 ≤ t ∧ t ≤ s ∧ 0 ≤ q ∧ q < 7)) : covB (raiseV v r s) q t = covB v q t := by
  rw [Bool.eq_iff_iff, covB_iff, covB_iff]
  by_cases hr : 0 ≤ r ∧ r < 7
  · rw [raise_in hr]; unfold upd
    by_cases e : q.toNat = r.toNat
    · rw [if_pos e, ← e]
      refine ⟨fun x => ?_, fun x => ?_⟩ <;> (have : q = r := by omega) <;> subst this <;> omega
    · rw [if_neg e]
  · rw [raise_out hr]
theorem near_le (x : Int) : 0 ≤ near x ∧ near x ≤ 400 := by unfold near; omega
theorem cnt_le (v : Nat → Int) : ∀ k : Nat, 0 ≤ cntTo v k ∧ cntTo v k ≤ 400 * k
  | 0 => by simp [cntTo]
  | k + 1 => by
    have := cnt_le v k
    have := near_le (v k)
    simp only [cntTo]
    omega
theorem right_under {v : Nat → Int} {n : Int} (h : 1 ≤ n ∧ n ≤ 7) : (undB zeroV v && undB v (fullTo n.toNat)) = rightB v n := by
  rw [Bool.eq_iff_iff, Bool.and_eq_true, undB_iff, undB_iff, rightB_iff]
  refine ⟨fun x => ⟨h, fun i hi => ?_⟩, fun x => ⟨fun i hi => ?_, fun i hi => ?_⟩⟩
  · have h1 := x.1 i hi
    have h2 := x.2 i hi
    unfold okAt
    rw [decide_eq_true_eq]
    simp only [zeroV, fullTo] at h1 h2
    split at h2 <;> omega
  · have := x.2 i hi
    unfold okAt at this
    rw [decide_eq_true_eq] at this
    exact this.1
  · have := x.2 i hi
    unfold okAt at this
    rw [decide_eq_true_eq] at this
    unfold fullTo
    split <;> omega
theorem right_no {v : Nat → Int} {n : Int} (h : ¬ (1 ≤ n ∧ n ≤ 7)) : rightB v n = false := by
  rw [Bool.eq_false_iff]; exact fun x => h (rightB_iff.1 x).1
theorem right_bad {v : Nat → Int} {n : Int} {k : Nat} (hk : k < 7) (h : okAt v n k = false) : rightB v n = false := by
  rw [Bool.eq_false_iff]
  intro x
  have := (rightB_iff.1 x).2 k hk
  rw [h] at this; cases this
theorem okAt_iff {v : Nat → Int} {n : Int} {k : Nat} : okAt v n k = true ↔ (0 ≤ v k ∧ v k ≤ 400 ∧ (n ≤ k → v k = 0)) := by unfold okAt; exact decide_eq_true_iff
theorem okAt_no {v : Nat → Int} {n : Int} {k : Nat} (h : ¬ (0 ≤ v k ∧ v k ≤ 400 ∧ (n ≤ k → v k = 0))) : okAt v n k = false := by
  rw [Bool.eq_false_iff]; exact fun x => h (okAt_iff.1 x)
end Go.Proofs.Ytoncmbglmebkiaa.Ve
