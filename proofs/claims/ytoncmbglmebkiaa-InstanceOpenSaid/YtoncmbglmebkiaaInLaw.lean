/- Layer 18, plain mathematics of InstanceOpen: how many places are open. -/
import Derived.Test.YtoncmbglmebkiaaInPure
namespace Go.Proofs.Ytoncmbglmebkiaa.In
set_option linter.unusedVariables false
open Go.Proofs.Ytoncmbglmebkiaa.Rc (Ins okI okI_iff okV_iff)
open Go.Proofs.Ytoncmbglmebkiaa.St
theorem ok_place {i : Ins} {n : Int} (h : okI i n = true) : 0 ≤ i.pr ∧ i.pr < n ∧ 1 ≤ i.ps ∧ i.ps ≤ 400 := (okI_iff.1 h).2.1
theorem ok_dep {i : Ins} {n : Int} (h : okI i n = true) (k : Nat) (hk : k < 7) : 0 ≤ i.d k ∧ i.d k ≤ 400 := by
  obtain ⟨_, _, _, _, _, _, hv, _⟩ := okI_iff.1 h
  obtain ⟨_, _, _, hr⟩ := okV_iff.1 hv
  have := Ve.okAt_iff.1 ((Ve.rightB_iff.1 hr).2 k hk)
  exact ⟨this.1, this.2.1⟩
theorem known_le {l : List Ins} {n : Int} (h : ∀ i ∈ l, okI i n = true) (r : Int) : knownI l r ≤ 400 := by
  have key : ∀ (l : List Ins) (m : Int), m ≤ 400 → (∀ i ∈ l, okI i n = true) → l.foldl (stepK r) m ≤ 400 := by
    intro l
    induction l with
    | nil => intro m hm _; exact hm
    | cons x l ih =>
      intro m hm hl
      rw [List.foldl_cons]
      refine ih _ ?_ (fun i hi => hl i (List.mem_cons_of_mem _ hi))
      have hx := hl x List.mem_cons_self
      have h1 := ok_place hx
      unfold stepK
      split
      · rename_i h7
        have h2 := ok_dep hx r.toNat (by omega)
        split <;> omega
      · split <;> omega
  exact key l 0 (by decide) h
theorem slots_eq {l : List Ins} {n : Int} (h : ∀ i ∈ l, okI i n = true) (r : Int) : (slots l r : Int) = knownI l r := by
  have h1 := known_le h r
  have h2 := known_nonneg l r
  unfold slots
  omega
def one3 (b : Bool) : Nat := if b then 1 else 0
/-- How many of the first slots of a replica are committed. -/
def cR (l : List Ins) (r : Int) : Nat → Nat
  | 0 => 0
  | k + 1 => cR l r k + one3 ((gotI l r ((k : Int) + 1)).st == 3)
theorem openR_cR (l : List Ins) (r : Int) (k : Nat) : (openR l r k).length + cR l r k = k := by
  induction k with
  | zero => rfl
  | succ k ih =>
    rw [openR_succ, cR]
    cases h : (gotI l r ((k : Int) + 1)).st == 3 with
    | true => rw [if_pos rfl]; unfold one3; rw [if_pos rfl]; omega
    | false => rw [if_neg (by decide), List.length_append]; unfold one3; rw [if_neg (by decide)]; simp; omega
/-- How many committed ones a replica has in a list. -/
def cL : List Ins → Int → Nat
  | [], _ => 0
  | x :: l, r => cL l r + one3 (x.pr == r && x.st == 3)
theorem cR_cons (x : Ins) (l : List Ins) (r : Int) (hn : hasI l x.pr x.ps = false) (h1 : 1 ≤ x.ps) (k : Nat) : cR (x :: l) r k = cR l r k + one3 (x.pr == r && (x.st == 3 && decide (x.ps ≤ k))) := by
  induction k with
  | zero =>
    have : decide (x.ps ≤ ((0 : Nat) : Int)) = false := decide_eq_false (by omega)
    rw [this]
    simp [cR, one3]
  | succ k ih =>
    rw [cR, cR, ih, got_cons]
    by_cases ha : atP x r ((k : Int) + 1) = true
    · obtain ⟨e1, e2⟩ := atP_iff.1 ha
      rw [if_pos ha]
      have hg : gotI l r ((k : Int) + 1) = placeI r ((k : Int) + 1) := got_none (by rw [← e1, ← e2]; exact hn)
      rw [hg]
      have d1 : decide (x.ps ≤ (k : Int)) = false := decide_eq_false (by omega)
      have d2 : decide (x.ps ≤ ((k + 1 : Nat) : Int)) = true := decide_eq_true (by omega)
      have d3 : (x.pr == r) = true := by simpa using e1
      rw [d1, d2, d3]
      have d4 : ((placeI r ((k : Int) + 1)).st == 3) = false := rfl
      rw [d4]
      simp [one3]
    · rw [if_neg ha]
      by_cases hp : x.pr = r
      · have hne : x.ps ≠ (k : Int) + 1 := fun e => ha (atP_iff.2 ⟨hp, e⟩)
        have : decide (x.ps ≤ ((k + 1 : Nat) : Int)) = decide (x.ps ≤ (k : Int)) := by
          rw [decide_eq_decide]; omega
        rw [this]; omega
      · have d3 : (x.pr == r) = false := by simpa using hp
        rw [d3]; simp [one3]
theorem srt_has {x : Ins} {l : List Ins} (h : Srt (x :: l)) : hasI l x.pr x.ps = false := by
  rw [← Bool.not_eq_true, has_iff]
  intro ⟨y, hy, e1, e2⟩
  have := (List.pairwise_cons.1 h).1 y hy
  rw [lessI_iff] at this
  omega
theorem cR_cL {l : List Ins} (h : Srt l) (r : Int) (k : Nat) (hk : ∀ i ∈ l, 1 ≤ i.ps ∧ (i.pr = r → i.ps ≤ k)) : cR l r k = cL l r := by
  induction l with
  | nil =>
    show cR [] r k = 0
    clear hk h
    induction k with
    | zero => rfl
    | succ k ih => rw [cR, ih]; rfl
  | cons x l ih =>
    have hx := hk x List.mem_cons_self
    rw [cR_cons x l r (srt_has h) hx.1, ih (List.Pairwise.of_cons h) (fun i hi => hk i (List.mem_cons_of_mem _ hi)), cL]
    congr 2
    by_cases hp : x.pr = r
    · have d : decide (x.ps ≤ (k : Int)) = true := decide_eq_true (hx.2 hp)
      rw [d, Bool.and_true]
    · have d3 : (x.pr == r) = false := by simpa using hp
      rw [d3]; rfl
def sumC (l : List Ins) : Nat → Nat
  | 0 => 0
  | n + 1 => sumC l n + cL l n
def sumK (l : List Ins) : Nat → Int
  | 0 => 0
  | n + 1 => sumK l n + knownI l n
/-- The committed ones. -/
def cmt (l : List Ins) : Nat := (l.filter fun i => i.st == 3).length
theorem sumC_nil (n : Nat) : sumC [] n = 0 := by
  induction n with
  | zero => rfl
  | succ n ih => rw [sumC, ih]; rfl
theorem sumC_cons (x : Ins) (l : List Ins) (h0 : 0 ≤ x.pr) (n : Nat) : sumC (x :: l) n = sumC l n + one3 (decide (x.pr < n) && x.st == 3) := by
  induction n with
  | zero =>
    have : decide (x.pr < ((0 : Nat) : Int)) = false := decide_eq_false (by omega)
    rw [this]; rfl
  | succ n ih =>
    rw [sumC, sumC, ih, cL]
    by_cases hp : x.pr = (n : Int)
    · have d1 : decide (x.pr < (n : Int)) = false := decide_eq_false (by omega)
      have d2 : decide (x.pr < ((n + 1 : Nat) : Int)) = true := decide_eq_true (by omega)
      have d3 : (x.pr == (n : Int)) = true := by simpa using hp
      rw [d1, d2, d3]
      simp [one3]; omega
    · have d3 : (x.pr == (n : Int)) = false := by simpa using hp
      have d2 : decide (x.pr < ((n + 1 : Nat) : Int)) = decide (x.pr < (n : Int)) := by rw [decide_eq_decide]; omega
      rw [d2, d3]
      simp [one3]; omega
theorem sumC_cmt {l : List Ins} {n : Nat} (h : ∀ i ∈ l, 0 ≤ i.pr ∧ i.pr < n) : sumC l n = cmt l := by
  induction l with
  | nil => exact sumC_nil n
  | cons x l ih =>
    have hx := h x List.mem_cons_self
    have d1 : decide (x.pr < (n : Int)) = true := decide_eq_true hx.2
    rw [sumC_cons x l hx.1, ih (fun i hi => h i (List.mem_cons_of_mem _ hi)), d1]
    unfold cmt
    rw [List.filter_cons]
    cases x.st == 3 <;> rfl
theorem openN_sum {l : List Ins} {n : Int} (hs : Srt l) (ho : ∀ i ∈ l, okI i n = true) (k : Nat) : ((openN l k).length : Int) + sumC l k = sumK l k := by
  induction k with
  | zero => rfl
  | succ k ih =>
    rw [openN_succ, List.length_append, sumC, sumK]
    have h1 := openR_cR l k (slots l k)
    have h2 := slots_eq ho k
    have h3 := cR_cL hs k (slots l k) (fun i hi => ⟨(ok_place (ho i hi)).2.2.1, fun e => by
      have := known_ge hi
      rw [e] at this
      omega⟩)
    omega
/-- P18.7: the open ones are what is known less what is committed. -/
theorem open_count {l : List Ins} {n : Int} (h : rightT l n = true) : ((openI l n).length : Int) = sumK l n.toNat - cmt l := by
  obtain ⟨h1, h2, h3⟩ := rightT_iff.1 h
  have e : (min n 7).toNat = n.toNat := by omega
  unfold openI
  rw [e]
  have h4 := openN_sum h3 h2 n.toNat
  have h5 := sumC_cmt (l := l) (n := n.toNat) (fun i hi => by have := ok_place (h2 i hi); omega)
  omega
theorem sumK_bd {l : List Ins} {n : Int} (h : ∀ i ∈ l, okI i n = true) (k : Nat) : 0 ≤ sumK l k ∧ sumK l k ≤ 400 * k := by
  induction k with
  | zero => exact ⟨Int.le_refl _, Int.le_refl _⟩
  | succ k ih =>
    rw [sumK]
    have h1 := known_le h k
    have h2 := known_nonneg l k
    omega
/-- What is told of each open place. -/
def OpenAt (l : List Ins) (p : Int × Int) : Prop := (gotI l p.1 p.2).st ≠ 3 ∧ 1 ≤ p.2 ∧ p.2 ≤ knownI l p.1
theorem openR_mem {l : List Ins} {r : Int} {k : Nat} {p : Int × Int} (h : p ∈ openR l r k) : p.1 = r ∧ 1 ≤ p.2 ∧ p.2 ≤ k ∧ (gotI l r p.2).st ≠ 3 := by
  unfold openR at h
  obtain ⟨s, hs, rfl⟩ := List.mem_map.1 h
  obtain ⟨h1, h2⟩ := List.mem_filter.1 hs
  have h3 := List.mem_range.1 h1
  refine ⟨rfl, by show 1 ≤ (s : Int) + 1; omega, by show (s : Int) + 1 ≤ k; omega, fun e => ?_⟩
  have e' : (gotI l r ((s : Int) + 1)).st = 3 := e
  rw [e'] at h2
  cases h2
theorem openN_mem {l : List Ins} {k : Nat} {p : Int × Int} (h : p ∈ openN l k) : 0 ≤ p.1 ∧ p.1 < k ∧ OpenAt l p := by
  unfold openN at h
  obtain ⟨r, hr, hp⟩ := List.mem_flatMap.1 h
  have h1 := List.mem_range.1 hr
  obtain ⟨e, h2, h3, h4⟩ := openR_mem hp
  have hk := known_nonneg l (r : Int)
  have hsl : (slots l r : Int) ≤ knownI l r := by unfold slots; omega
  refine ⟨by omega, by omega, by rw [e]; exact h4, h2, by rw [e]; omega⟩
def PLess (a b : Int × Int) : Prop := lessP a.1 a.2 b.1 b.2 = true
theorem openR_pw (l : List Ins) (r : Int) (k : Nat) : (openR l r k).Pairwise PLess := by
  induction k with
  | zero => exact List.Pairwise.nil
  | succ k ih =>
    rw [openR_succ]
    split
    · exact ih
    · refine List.pairwise_append.2 ⟨ih, List.pairwise_singleton _ _, fun a ha b hb => ?_⟩
      rw [List.mem_singleton] at hb
      subst hb
      obtain ⟨e, h2, h3, _⟩ := openR_mem ha
      show lessP a.1 a.2 r ((k : Int) + 1) = true
      rw [lessP_iff]; omega
theorem openN_pw (l : List Ins) (k : Nat) : (openN l k).Pairwise PLess := by
  induction k with
  | zero => exact List.Pairwise.nil
  | succ k ih =>
    rw [openN_succ]
    refine List.pairwise_append.2 ⟨ih, openR_pw _ _ _, fun a ha b hb => ?_⟩
    obtain ⟨_, h1, _⟩ := openN_mem ha
    obtain ⟨e, _⟩ := openR_mem hb
    show lessP a.1 a.2 b.1 b.2 = true
    rw [lessP_iff]; omega
theorem cmt_take {l : List Ins} {k : Nat} (h : k < l.length) : cmt (l.take (k + 1)) = cmt (l.take k) + one3 (l[k].st == 3) := by
  unfold cmt
  rw [List.take_succ_eq_append_getElem h, List.filter_append, List.length_append]
  congr 1
  cases e : l[k].st == 3 <;> simp [e, one3]
theorem cmt_le (l : List Ins) : cmt l ≤ l.length := List.length_filter_le _ _
end Go.Proofs.Ytoncmbglmebkiaa.In
