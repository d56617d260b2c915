/- Layer 18 (instance), plain mathematics: tables of instances looked up and put into, what depends on what. -/
import Derived.Test.YtmaecknjamnnpaaStIns
namespace Go.Proofs.Ytmaecknjamnnpaa.In

set_option linter.unusedVariables false
open Go.Proofs.Ytmaecknjamnnpaa.Rc (Ins okI Same okI_iff)
open Go.Proofs.Ytmaecknjamnnpaa.St
open Go.Proofs.Ytmaecknjamnnpaa.Ve (zeroV upd raiseV covB eqV)
open Go.Proofs.Ytmaecknjamnnpaa.Cm (meetB zeroF)
/-- A place ahead of another one. -/
def lessP (a b c d : Int) : Bool := decide (a < c ∨ (a = c ∧ b < d))
theorem lessP_iff {a b c d : Int} : lessP a b c d = true ↔ (a < c ∨ (a = c ∧ b < d)) := by simp [lessP]
theorem lessP_at (i j : Ins) : lessP i.pr i.ps j.pr j.ps = lessI i j := rfl
def atP (i : Ins) (r s : Int) : Bool := (i.pr == r) && (i.ps == s)
theorem atP_iff {i : Ins} {r s : Int} : atP i r s = true ↔ i.pr = r ∧ i.ps = s := by simp [atP]
theorem atP_no {i : Ins} {r s : Int} : atP i r s = false ↔ ¬ (i.pr = r ∧ i.ps = s) := by rw [← atP_iff]; simp
theorem atP_at (x i : Ins) : atP x i.pr i.ps = atI x i := by rw [Bool.eq_iff_iff, atP_iff, atI_iff]
/-- The instance of which just the place is set. -/
def placeI (r s : Int) : Ins := ⟨r, s, 0, 0, 0, 0, 0, zeroF, 0, zeroV, false⟩
def gotI (l : List Ins) (r s : Int) : Ins := (l.find? fun i => atP i r s).getD (placeI r s)
def hasI (l : List Ins) (r s : Int) : Bool := l.any fun i => atP i r s
theorem got_nil (r s : Int) : gotI [] r s = placeI r s := rfl
theorem got_cons (x : Ins) (l : List Ins) (r s : Int) : gotI (x :: l) r s = if atP x r s then x else gotI l r s := by
  unfold gotI
  rw [List.find?_cons]
  cases atP x r s <;> rfl
theorem has_cons (x : Ins) (l : List Ins) (r s : Int) : hasI (x :: l) r s = (atP x r s || hasI l r s) := rfl
theorem got_at {l : List Ins} {r s : Int} : ∀ {k : Nat} (hk : k < l.length), (∀ j (h : j < l.length), j < k → atP l[j] r s = false) → atP l[k] r s = true → gotI l r s = l[k] ∧ hasI l r s = true := by
  induction l with
  | nil => intro k hk; cases hk
  | cons x l ih =>
    intro k hk h0 h1
    rw [got_cons, has_cons]
    cases k with
    | zero => rw [List.getElem_cons_zero] at h1 ⊢; rw [h1]; exact ⟨rfl, rfl⟩
    | succ k =>
      have h2 := h0 0 (by simp) (by omega)
      rw [List.getElem_cons_zero] at h2
      rw [h2]
      exact ih (k := k) (by simpa using hk) (fun j h hj => by have := h0 (j + 1) (by simpa using h) (by omega); simpa using this) (by simpa using h1)
theorem got_no {l : List Ins} {r s : Int} (h : ∀ j (h : j < l.length), atP l[j] r s = false) : gotI l r s = placeI r s ∧ hasI l r s = false := by
  induction l with
  | nil => exact ⟨rfl, rfl⟩
  | cons x l ih =>
    have h2 := h 0 (by simp)
    rw [List.getElem_cons_zero] at h2
    rw [got_cons, has_cons, h2]
    exact ih fun j hj => by have := h (j + 1) (by simpa using hj); simpa using this
theorem has_iff {l : List Ins} {r s : Int} : hasI l r s = true ↔ ∃ x ∈ l, x.pr = r ∧ x.ps = s := by
  unfold hasI; rw [List.any_eq_true]; exact ⟨fun ⟨x, h1, h2⟩ => ⟨x, h1, atP_iff.1 h2⟩, fun ⟨x, h1, h2⟩ => ⟨x, h1, atP_iff.2 h2⟩⟩
theorem got_none {l : List Ins} {r s : Int} (h : hasI l r s = false) : gotI l r s = placeI r s := by
  refine (got_no fun j hj => ?_).1
  cases e : atP l[j] r s with
  | false => rfl
  | true => rw [has_iff.2 ⟨l[j], List.getElem_mem hj, atP_iff.1 e⟩] at h; cases h
theorem got_mem {l : List Ins} {r s : Int} (h : hasI l r s = true) : gotI l r s ∈ l ∧ (gotI l r s).pr = r ∧ (gotI l r s).ps = s := by
  induction l with
  | nil => cases h
  | cons x l ih =>
    rw [got_cons]
    cases e : atP x r s with
    | true => rw [if_pos rfl]; exact ⟨List.mem_cons_self, atP_iff.1 e⟩
    | false =>
      rw [has_cons, e] at h
      rw [if_neg (by decide)]
      obtain ⟨h1, h2⟩ := ih h
      exact ⟨List.mem_cons_of_mem _ h1, h2⟩
/-- Put, of whatever list. -/
def putG (i : Ins) (l : List Ins) : List Ins := l.takeWhile (fun x => lessI x i) ++ i :: (l.dropWhile (fun x => lessI x i)).filter (fun x => !atI x i)
theorem part_at {l : List Ins} {p : Ins → Bool} : ∀ {k : Nat}, k ≤ l.length → (∀ j (h : j < l.length), j < k → p l[j] = true) → (∀ h : k < l.length, p l[k] = false) → l.takeWhile p = l.take k ∧ l.dropWhile p = l.drop k := by
  induction l with
  | nil => intro k hk _ _; simp
  | cons x l ih =>
    intro k hk h0 h1
    cases k with
    | zero =>
      have h2 := h1 (by simp)
      rw [List.getElem_cons_zero] at h2
      rw [List.takeWhile_cons, List.dropWhile_cons, h2]
      simp
    | succ k =>
      have h2 := h0 0 (by simp) (by omega)
      rw [List.getElem_cons_zero] at h2
      obtain ⟨h3, h4⟩ := ih (k := k) (by simpa using hk) (fun j h hj => by have := h0 (j + 1) (by simpa using h) (by omega); simpa using this) (fun h => by have := h1 (by simpa using h); simpa using this)
      rw [List.takeWhile_cons, List.dropWhile_cons, h2]
      simp [h3, h4]
theorem putG_at {l : List Ins} {i : Ins} {k : Nat} (hk : k ≤ l.length) (h0 : ∀ j (h : j < l.length), j < k → lessI l[j] i = true) (h1 : ∀ h : k < l.length, lessI l[k] i = false) : putG i l = l.take k ++ i :: (l.drop k).filter (fun x => !atI x i) := by
  unfold putG
  obtain ⟨h3, h4⟩ := part_at (p := fun x => lessI x i) hk h0 h1
  rw [h3, h4]
theorem putG_len (i : Ins) (l : List Ins) : (putG i l).length ≤ l.length + 1 := by
  unfold putG
  have h1 := List.length_filter_le (fun x => !atI x i) (l.dropWhile (fun x => lessI x i))
  have h2 := congrArg List.length (List.takeWhile_append_dropWhile (p := fun x => lessI x i) (l := l))
  rw [List.length_append] at h2 ⊢
  rw [List.length_cons]
  omega
theorem less_irrefl (i : Ins) : lessI i i = false := by rw [← Bool.not_eq_true, lessI_iff]; omega
theorem put_srt_eq {i : Ins} {l : List Ins} (h : Srt l) : putG i l = put i l := by
  induction l with
  | nil => rfl
  | cons x l ih =>
    unfold putG
    rw [put, List.takeWhile_cons, List.dropWhile_cons]
    cases e : lessI x i with
    | true =>
      rw [if_pos rfl, if_pos rfl, if_pos rfl, List.cons_append, ← ih (List.Pairwise.of_cons h)]; rfl
    | false =>
      have hf : ∀ y ∈ l, atI y i = false := fun y hy => by
        have h1 := (List.pairwise_cons.1 h).1 y hy
        rw [← Bool.not_eq_true, lessI_iff] at e
        rw [lessI_iff] at h1
        rw [← Bool.not_eq_true, atI_iff]
        omega
      have hl : l.filter (fun x => !atI x i) = l := List.filter_eq_self.2 fun y hy => by rw [hf y hy]; rfl
      simp only [if_neg (show ¬ (false = true) by decide), List.nil_append]
      rw [List.filter_cons]
      cases e2 : atI x i with
      | true => simp [hl]
      | false => simp [hl]
theorem got_put {i : Ins} {l : List Ins} (h : Srt l) (r s : Int) : gotI (put i l) r s = if atP i r s then i else gotI l r s := by
  induction l with
  | nil => rw [put, got_cons]
  | cons x l ih =>
    rw [put]
    split
    · rename_i e
      rw [got_cons, ih (List.Pairwise.of_cons h), got_cons]
      rw [lessI_iff] at e
      by_cases hx : atP x r s = true
      · have h1 := atP_iff.1 hx
        have h2 : atP i r s = false := atP_no.2 (by omega)
        rw [if_pos hx, h2, if_neg (by decide), if_pos hx]
      · rw [if_neg hx, if_neg hx]
    · split
      · rename_i e1 e
        rw [got_cons, got_cons]
        rw [atI_iff] at e
        by_cases hi : atP i r s = true
        · rw [if_pos hi, if_pos hi]
        · rw [if_neg hi, if_neg hi, if_neg (fun k => hi (atP_iff.2 (by have := atP_iff.1 k; omega)))]
      · rw [got_cons]
theorem has_put {i : Ins} {l : List Ins} (h : Srt l) (r s : Int) : hasI (put i l) r s = (atP i r s || hasI l r s) := by
  induction l with
  | nil => rfl
  | cons x l ih =>
    rw [put]
    split
    · rw [has_cons, ih (List.Pairwise.of_cons h), has_cons, Bool.or_left_comm]
    · split
      · rename_i e1 e
        rw [has_cons, has_cons, ← Bool.or_assoc]
        rw [atI_iff] at e
        congr 1
        rw [Bool.eq_iff_iff, Bool.or_eq_true, atP_iff, atP_iff]
        omega
      · rw [has_cons]
/-- The last one of a place, in the order of coming. -/
def lastI : List Ins → Int → Int → Ins × Bool
  | [], r, s => (placeI r s, false)
  | i :: l, r, s => if (lastI l r s).2 then lastI l r s else if atP i r s then (i, true) else lastI l r s
theorem last_none {l : List Ins} {r s : Int} (h : (lastI l r s).2 = false) : lastI l r s = (placeI r s, false) := by
  induction l with
  | nil => rfl
  | cons i l ih =>
    unfold lastI at h ⊢
    cases e : (lastI l r s).2 with
    | true => rw [e, if_pos rfl] at h; rw [h] at e; cases e
    | false =>
      rw [e, if_neg (by decide)] at h
      rw [if_neg (by decide)]
      by_cases hi : atP i r s = true
      · rw [if_pos hi] at h; cases h
      · rw [if_neg hi]; exact ih e
theorem last_snoc (l : List Ins) (i : Ins) (r s : Int) : lastI (l ++ [i]) r s = if atP i r s then (i, true) else lastI l r s := by
  induction l with
  | nil =>
    show lastI [i] r s = _
    unfold lastI
    rfl
  | cons x l ih =>
    rw [List.cons_append, lastI, ih]
    by_cases hi : atP i r s = true
    · rw [if_pos hi, if_pos hi]; rfl
    · rw [if_neg hi, if_neg hi, lastI]
theorem puts_snoc (t l : List Ins) (i : Ins) : puts t (l ++ [i]) = put i (puts t l) := by rw [puts_app, puts_cons, puts_nil]
theorem srt_nil : Srt [] := List.Pairwise.nil
theorem snoc_ind {α : Type} {P : List α → Prop} (h0 : P []) (h1 : ∀ l a, P l → P (l ++ [a])) (l : List α) : P l := by
  have h : ∀ m : List α, P m.reverse := fun m => by
    induction m with
    | nil => exact h0
    | cons a m ih => rw [List.reverse_cons]; exact h1 _ _ ih
  have h2 := h l.reverse
  rwa [List.reverse_reverse] at h2
theorem got_puts (l : List Ins) (r s : Int) : (gotI (puts [] l) r s, hasI (puts [] l) r s) = lastI l r s := by
  refine snoc_ind (P := fun l => (gotI (puts [] l) r s, hasI (puts [] l) r s) = lastI l r s) rfl (fun l i ih => ?_) l
  · rw [puts_snoc, last_snoc, got_put (puts_srt l srt_nil), has_put (puts_srt l srt_nil)]
    by_cases hi : atP i r s = true
    · rw [if_pos hi, if_pos hi, hi]; rfl
    · rw [if_neg hi, if_neg hi, Bool.eq_false_iff.2 hi, ← ih]; rfl
theorem has_puts {l : List Ins} {i : Ins} (h : i ∈ l) : hasI (puts [] l) i.pr i.ps = true := by
  have h1 := got_puts l i.pr i.ps
  have h2 : hasI (puts [] l) i.pr i.ps = (lastI l i.pr i.ps).2 := by rw [← h1]
  rw [h2]
  clear h1 h2
  induction l with
  | nil => cases h
  | cons x l ih =>
    unfold lastI
    cases e : (lastI l i.pr i.ps).2 with
    | true => rw [if_pos rfl]; exact e
    | false =>
      rw [if_neg (by decide)]
      rcases List.mem_cons.1 h with rfl | h
      · rw [if_pos (atP_iff.2 ⟨rfl, rfl⟩)]
      · rw [ih h] at e; cases e
/-- Up to which slot something is known of a replica. -/
def stepK (r : Int) (n : Int) (i : Ins) : Int :=
  if 0 ≤ r ∧ r < 7 then max (if i.pr = r then max n i.ps else n) (i.d r.toNat) else if i.pr = r then max n i.ps else n
def knownI (l : List Ins) (r : Int) : Int := l.foldl (stepK r) 0
theorem foldl_take {α β : Type} (f : β → α → β) (b : β) {l : List α} {k : Nat} (h : k < l.length) : (l.take (k + 1)).foldl f b = f ((l.take k).foldl f b) l[k] := by
  rw [List.take_succ_eq_append_getElem h, List.foldl_append]; rfl
theorem known_take {l : List Ins} {k : Nat} (h : k < l.length) (r : Int) : knownI (l.take (k + 1)) r = stepK r (knownI (l.take k) r) l[k] := foldl_take _ _ h
theorem stepK_ge (r n : Int) (i : Ins) : n ≤ stepK r n i ∧ (i.pr = r → i.ps ≤ stepK r n i) := by
  unfold stepK
  split <;> split <;> omega
theorem fold_ge (l : List Ins) (r n : Int) : n ≤ l.foldl (stepK r) n ∧ ∀ x ∈ l, x.pr = r → x.ps ≤ l.foldl (stepK r) n := by
  induction l generalizing n with
  | nil => exact ⟨Int.le_refl _, fun x h => by cases h⟩
  | cons i l ih =>
    rw [List.foldl_cons]
    obtain ⟨h1, h2⟩ := stepK_ge r n i
    obtain ⟨h3, h4⟩ := ih (stepK r n i)
    refine ⟨Int.le_trans h1 h3, fun x hx e => ?_⟩
    rcases List.mem_cons.1 hx with rfl | hx
    · exact Int.le_trans (h2 e) h3
    · exact h4 x hx e
theorem known_nonneg (l : List Ins) (r : Int) : 0 ≤ knownI l r := (fold_ge l r 0).1
theorem known_ge {l : List Ins} {x : Ins} (h : x ∈ l) : x.ps ≤ knownI l x.pr := (fold_ge l x.pr 0).2 x h rfl
theorem known_has {l : List Ins} {r s : Int} (h : hasI l r s = true) : s ≤ knownI l r := by
  obtain ⟨x, h1, rfl, rfl⟩ := has_iff.1 h
  exact known_ge h1
/-- A table that may be. -/
def rightT (l : List Ins) (n : Int) : Bool := decide (1 ≤ n ∧ n ≤ 7) && (l.all (fun i => okI i n) && decide (l.Pairwise fun a b => lessI a b = true))
theorem rightT_iff {l : List Ins} {n : Int} : rightT l n = true ↔ (1 ≤ n ∧ n ≤ 7) ∧ (∀ i ∈ l, okI i n = true) ∧ Srt l := by
  unfold rightT Srt
  rw [Bool.and_eq_true, Bool.and_eq_true, decide_eq_true_eq, decide_eq_true_eq, List.all_eq_true]
theorem rightT_no {l : List Ins} {n : Int} (h : ¬ ((1 ≤ n ∧ n ≤ 7) ∧ (∀ i ∈ l, okI i n = true) ∧ Srt l)) : rightT l n = false := by
  rw [← Bool.not_eq_true, rightT_iff]; exact h
theorem srt_next {l : List Ins} (h : ∀ j (h : j + 1 < l.length), lessI l[j] l[j + 1] = true) : Srt l := by
  refine List.pairwise_iff_getElem.2 fun i j hi hj hij => ?_
  obtain ⟨d, rfl⟩ : ∃ d, j = i + 1 + d := ⟨j - (i + 1), by omega⟩
  clear hij
  induction d with
  | zero => exact h i hj
  | succ d ih => exact less_trans (ih (by omega)) (h (i + 1 + d) (by omega))
theorem srt_two {l : List Ins} (h : Srt l) {i j : Nat} (hi : i < l.length) (hj : j < l.length) (hij : i < j) : lessI l[i] l[j] = true := List.pairwise_iff_getElem.1 h i j hi hj hij
/-- Those whose command a command depends on. -/
def consB (c : Nat → Int) (r s : Int) (i : Ins) : Bool := !atP i r s && (decide (1 ≤ i.st) && meetB i.c c)
theorem consB_iff {c : Nat → Int} {r s : Int} {i : Ins} : consB c r s i = true ↔ atP i r s = false ∧ 1 ≤ i.st ∧ meetB i.c c = true := by simp [consB]
def stepQ (c : Nat → Int) (r s : Int) (n : Int) (i : Ins) : Int := if consB c r s i then max n (min i.q 1073741823) else n
def stepD (c : Nat → Int) (r s : Int) (v : Nat → Int) (i : Ins) : Nat → Int := if consB c r s i then raiseV v i.pr i.ps else v
def grQ (l : List Ins) (c : Nat → Int) (r s : Int) : Int := l.foldl (stepQ c r s) 0
def grD (l : List Ins) (c : Nat → Int) (r s : Int) : Nat → Int := l.foldl (stepD c r s) zeroV
def depN (l : List Ins) (c : Nat → Int) (r s : Int) : Int := if c 2 = 0 then 0 else grQ l c r s + 1
def depV (l : List Ins) (c : Nat → Int) (r s : Int) : Nat → Int := if c 2 = 0 then zeroV else grD l c r s
theorem grQ_take {l : List Ins} {k : Nat} (h : k < l.length) (c : Nat → Int) (r s : Int) : grQ (l.take (k + 1)) c r s = stepQ c r s (grQ (l.take k) c r s) l[k] := foldl_take _ _ h
theorem grD_take {l : List Ins} {k : Nat} (h : k < l.length) (c : Nat → Int) (r s : Int) : grD (l.take (k + 1)) c r s = stepD c r s (grD (l.take k) c r s) l[k] := foldl_take _ _ h
theorem stepQ_bd (c : Nat → Int) (r s n : Int) (i : Ins) (h : 0 ≤ n ∧ n ≤ 1073741823) : 0 ≤ stepQ c r s n i ∧ stepQ c r s n i ≤ 1073741823 := by
  unfold stepQ; split <;> omega
theorem foldQ_bd (c : Nat → Int) (r s : Int) (l : List Ins) : ∀ n : Int, 0 ≤ n ∧ n ≤ 1073741823 → n ≤ l.foldl (stepQ c r s) n ∧ 0 ≤ l.foldl (stepQ c r s) n ∧ l.foldl (stepQ c r s) n ≤ 1073741823 ∧ ∀ i ∈ l, consB c r s i = true → min i.q 1073741823 ≤ l.foldl (stepQ c r s) n := by
  induction l with
  | nil => intro n h; exact ⟨Int.le_refl _, h.1, h.2, fun i hi => by cases hi⟩
  | cons x l ih =>
    intro n h
    rw [List.foldl_cons]
    obtain ⟨h1, h2, h3, h4⟩ := ih (stepQ c r s n x) (stepQ_bd c r s n x h)
    have h5 : n ≤ stepQ c r s n x := by unfold stepQ; split <;> omega
    refine ⟨by omega, h2, h3, fun i hi hc => ?_⟩
    rcases List.mem_cons.1 hi with rfl | hi
    · have : min i.q 1073741823 ≤ stepQ c r s n i := by unfold stepQ; rw [if_pos hc]; omega
      omega
    · exact h4 i hi hc
theorem grQ_bd (l : List Ins) (c : Nat → Int) (r s : Int) : 0 ≤ grQ l c r s ∧ grQ l c r s ≤ 1073741823 := ⟨(foldQ_bd c r s l 0 (by decide)).2.1, (foldQ_bd c r s l 0 (by decide)).2.2.1⟩
theorem grQ_ge {l : List Ins} {c : Nat → Int} {r s : Int} {i : Ins} (h : i ∈ l) (hc : consB c r s i = true) : min i.q 1073741823 ≤ grQ l c r s := (foldQ_bd c r s l 0 (by decide)).2.2.2 i h hc
theorem raise_ge (v : Nat → Int) (r s : Int) (k : Nat) : v k ≤ raiseV v r s k := by
  unfold raiseV upd
  split
  · show _ ≤ if k = r.toNat then _ else _
    split
    · rename_i e; rw [e]; exact Int.le_max_left _ _
    · exact Int.le_refl _
  · exact Int.le_refl _
theorem stepD_ge (c : Nat → Int) (r s : Int) (v : Nat → Int) (i : Ins) (k : Nat) : v k ≤ stepD c r s v i k := by
  unfold stepD; split
  · exact raise_ge _ _ _ _
  · exact Int.le_refl _
theorem foldD_ge (c : Nat → Int) (r s : Int) (l : List Ins) : ∀ v : Nat → Int, (∀ k, v k ≤ l.foldl (stepD c r s) v k) ∧ ∀ i ∈ l, consB c r s i = true → 0 ≤ i.pr → i.pr < 7 → i.ps ≤ l.foldl (stepD c r s) v i.pr.toNat := by
  induction l with
  | nil => intro v; exact ⟨fun k => Int.le_refl _, fun i hi => by cases hi⟩
  | cons x l ih =>
    intro v
    rw [List.foldl_cons]
    obtain ⟨h1, h2⟩ := ih (stepD c r s v x)
    refine ⟨fun k => Int.le_trans (stepD_ge _ _ _ _ _ _) (h1 k), fun i hi hc h0 h7 => ?_⟩
    rcases List.mem_cons.1 hi with rfl | hi
    · refine Int.le_trans ?_ (h1 _)
      unfold stepD
      rw [if_pos hc, Ve.raise_in ⟨h0, h7⟩]
      unfold upd
      rw [if_pos rfl]
      exact Int.le_max_right _ _
    · exact h2 i hi hc h0 h7
theorem grD_ge {l : List Ins} {c : Nat → Int} {r s : Int} {i : Ins} (h : i ∈ l) (hc : consB c r s i = true) (h0 : 0 ≤ i.pr) (h7 : i.pr < 7) : i.ps ≤ grD l c r s i.pr.toNat := (foldD_ge c r s l zeroV).2 i h hc h0 h7
/-- What P18.9 asks of one that is depended on. -/
theorem cov_of {l : List Ins} {c : Nat → Int} {r s : Int} {i : Ins} (h : i ∈ l) (hc : consB c r s i = true) (ho : okI i 7 = true) : covB (depV l c r s) i.pr i.ps = true ∧ (i.q < depN l c r s ∨ 1073741824 ≤ i.q) := by
  obtain ⟨_, h1, _⟩ := okI_iff.1 ho
  obtain ⟨_, _, hm⟩ := consB_iff.1 hc
  have h2 : c 2 ≠ 0 := fun e => by
    unfold meetB at hm
    rw [e] at hm
    simp at hm
  have h3 := grD_ge h hc h1.1 h1.2.1
  have h4 := grQ_ge h hc
  unfold depV depN
  rw [if_neg h2, if_neg h2]
  refine ⟨Ve.covB_iff.2 ⟨h1.1, h1.2.1, h1.2.2.1, h3⟩, by omega⟩
/-- Places that are open. -/
def openR (l : List Ins) (r : Int) (k : Nat) : List (Int × Int) := ((List.range k).filter fun s : Nat => !((gotI l r ((s : Int) + 1)).st == 3)).map fun s : Nat => (r, (s : Int) + 1)
def slots (l : List Ins) (r : Int) : Nat := (min (knownI l r) 400).toNat
def openN (l : List Ins) (k : Nat) : List (Int × Int) := (List.range k).flatMap fun r : Nat => openR l r (slots l r)
def openI (l : List Ins) (n : Int) : List (Int × Int) := openN l (min n 7).toNat
theorem openR_zero (l : List Ins) (r : Int) : openR l r 0 = [] := rfl
theorem openR_succ (l : List Ins) (r : Int) (k : Nat) : openR l r (k + 1) = if (gotI l r ((k : Int) + 1)).st == 3 then openR l r k else openR l r k ++ [(r, (k : Int) + 1)] := by
  unfold openR
  rw [List.range_succ, List.filter_append, List.map_append]
  cases h : (gotI l r ((k : Int) + 1)).st == 3 with
  | true => simp [h]
  | false => simp [h]
theorem openN_zero (l : List Ins) : openN l 0 = [] := rfl
theorem openN_succ (l : List Ins) (k : Nat) : openN l (k + 1) = openN l k ++ openR l k (slots l k) := by
  unfold openN
  rw [List.range_succ, List.flatMap_append]
  simp
theorem openR_len (l : List Ins) (r : Int) (k : Nat) : (openR l r k).length ≤ k := by
  unfold openR
  rw [List.length_map]
  exact Nat.le_trans (List.length_filter_le _ _) (by simp)
theorem slots_le (l : List Ins) (r : Int) : slots l r ≤ 400 := by unfold slots; omega
theorem openN_len (l : List Ins) (k : Nat) : (openN l k).length ≤ 400 * k := by
  induction k with
  | zero => simp [openN]
  | succ k ih =>
    rw [openN_succ, List.length_append]
    have h1 := openR_len l k (slots l k)
    have h2 := slots_le l k
    omega
end Go.Proofs.Ytmaecknjamnnpaa.In
/- Layer 18, plain mathematics of InstanceOpen: how many places are open. -/
namespace Go.Proofs.Ytmaecknjamnnpaa.In
set_option linter.unusedVariables false
open Go.Proofs.Ytmaecknjamnnpaa.Rc (Ins okI okI_iff okV_iff)
open Go.Proofs.Ytmaecknjamnnpaa.St
theorem ok_place {i : Ins} {n : Int} (h : okI i n = true) : 0 ≤ i.pr ∧ i.pr < n ∧ 1 ≤ i.ps ∧ i.ps ≤ 400 := (okI_iff.1 h).2.1
theorem ok_dep {i : Ins} {n : Int} (h : okI i n = true) (k : Nat) (hk : k < 7) : 0 ≤ i.d k ∧ i.d k ≤ 400 := by
  obtain ⟨_, _, _, _, _, _, hv, _⟩ := okI_iff.1 h
  obtain ⟨_, _, _, hr⟩ := okV_iff.1 hv
  have := Ve.okAt_iff.1 ((Ve.rightB_iff.1 hr).2 k hk)
  exact ⟨this.1, this.2.1⟩
theorem known_le {l : List Ins} {n : Int} (h : ∀ i ∈ l, okI i n = true) (r : Int) : knownI l r ≤ 400 := by
  have key : ∀ (l : List Ins) (m : Int), m ≤ 400 → (∀ i ∈ l, okI i n = true) → l.foldl (stepK r) m ≤ 400 := by
    intro l
    induction l with
    | nil => intro m hm _; exact hm
    | cons x l ih =>
      intro m hm hl
      rw [List.foldl_cons]
      refine ih _ ?_ (fun i hi => hl i (List.mem_cons_of_mem _ hi))
      have hx := hl x List.mem_cons_self
      have h1 := ok_place hx
      unfold stepK
      split
      · rename_i h7
        have h2 := ok_dep hx r.toNat (by omega)
        split <;> omega
      · split <;> omega
  exact key l 0 (by decide) h
theorem slots_eq {l : List Ins} {n : Int} (h : ∀ i ∈ l, okI i n = true) (r : Int) : (slots l r : Int) = knownI l r := by
  have h1 := known_le h r
  have h2 := known_nonneg l r
  unfold slots
  omega
def one3 (b : Bool) : Nat := if b then 1 else 0
/-- How many of the first slots of a replica are committed. -/
def cR (l : List Ins) (r : Int) : Nat → Nat
  | 0 => 0
  | k + 1 => cR l r k + one3 ((gotI l r ((k : Int) + 1)).st == 3)
theorem openR_cR (l : List Ins) (r : Int) (k : Nat) : (openR l r k).length + cR l r k = k := by
  induction k with
  | zero => rfl
  | succ k ih =>
    rw [openR_succ, cR]
    cases h : (gotI l r ((k : Int) + 1)).st == 3 with
    | true => rw [if_pos rfl]; unfold one3; rw [if_pos rfl]; omega
    | false => rw [if_neg (by decide), List.length_append]; unfold one3; rw [if_neg (by decide)]; simp; omega
/-- How many committed ones a replica has in a list. -/
def cL : List Ins → Int → Nat
  | [], _ => 0
  | x :: l, r => cL l r + one3 (x.pr == r && x.st == 3)
theorem cR_cons (x : Ins) (l : List Ins) (r : Int) (hn : hasI l x.pr x.ps = false) (h1 : 1 ≤ x.ps) (k : Nat) : cR (x :: l) r k = cR l r k + one3 (x.pr == r && (x.st == 3 && decide (x.ps ≤ k))) := by
  induction k with
  | zero =>
    have : decide (x.ps ≤ ((0 : Nat) : Int)) = false := decide_eq_false (by omega)
    rw [this]
    simp [cR, one3]
  | succ k ih =>
    rw [cR, cR, ih, got_cons]
    by_cases ha : atP x r ((k : Int) + 1) = true
    · obtain ⟨e1, e2⟩ := atP_iff.1 ha
      rw [if_pos ha]
      have hg : gotI l r ((k : Int) + 1) = placeI r ((k : Int) + 1) := got_none (by rw [← e1, ← e2]; exact hn)
      rw [hg]
      have d1 : decide (x.ps ≤ (k : Int)) = false := decide_eq_false (by omega)
      have d2 : decide (x.ps ≤ ((k + 1 : Nat) : Int)) = true := decide_eq_true (by omega)
      have d3 : (x.pr == r) = true := by simpa using e1
      rw [d1, d2, d3]
      have d4 : ((placeI r ((k : Int) + 1)).st == 3) = false := rfl
      rw [d4]
      simp [one3]
    · rw [if_neg ha]
      by_cases hp : x.pr = r
      · have hne : x.ps ≠ (k : Int) + 1 := fun e => ha (atP_iff.2 ⟨hp, e⟩)
        have : decide (x.ps ≤ ((k + 1 : Nat) : Int)) = decide (x.ps ≤ (k : Int)) := by
          rw [decide_eq_decide]; omega
        rw [this]; omega
      · have d3 : (x.pr == r) = false := by simpa using hp
        rw [d3]; simp [one3]
theorem srt_has {x : Ins} {l : List Ins} (h : Srt (x :: l)) : hasI l x.pr x.ps = false := by
  rw [← Bool.not_eq_true, has_iff]
  intro ⟨y, hy, e1, e2⟩
  have := (List.pairwise_cons.1 h).1 y hy
  rw [lessI_iff] at this
  omega
theorem cR_cL {l : List Ins} (h : Srt l) (r : Int) (k : Nat) (hk : ∀ i ∈ l, 1 ≤ i.ps ∧ (i.pr = r → i.ps ≤ k)) : cR l r k = cL l r := by
  induction l with
  | nil =>
    show cR [] r k = 0
    clear hk h
    induction k with
    | zero => rfl
    | succ k ih => rw [cR, ih]; rfl
  | cons x l ih =>
    have hx := hk x List.mem_cons_self
    rw [cR_cons x l r (srt_has h) hx.1, ih (List.Pairwise.of_cons h) (fun i hi => hk i (List.mem_cons_of_mem _ hi)), cL]
    congr 2
    by_cases hp : x.pr = r
    · have d : decide (x.ps ≤ (k : Int)) = true := decide_eq_true (hx.2 hp)
      rw [d, Bool.and_true]
    · have d3 : (x.pr == r) = false := by simpa using hp
      rw [d3]; rfl
def sumC (l : List Ins) : Nat → Nat
  | 0 => 0
  | n + 1 => sumC l n + cL l n
def sumK (l : List Ins) : Nat → Int
  | 0 => 0
  | n + 1 => sumK l n + knownI l n
/-- The committed ones. -/
def cmt (l : List Ins) : Nat := (l.filter fun i => i.st == 3).length
theorem sumC_nil (n : Nat) : sumC [] n = 0 := by
  induction n with
  | zero => rfl
  | succ n ih => rw [sumC, ih]; rfl
theorem sumC_cons (x : Ins) (l : List Ins) (h0 : 0 ≤ x.pr) (n : Nat) : sumC (x :: l) n = sumC l n + one3 (decide (x.pr < n) && x.st == 3) := by
  induction n with
  | zero =>
    have : decide (x.pr < ((0 : Nat) : Int)) = false := decide_eq_false (by omega)
    rw [this]; rfl
  | succ n ih =>
    rw [sumC, sumC, ih, cL]
    by_cases hp : x.pr = (n : Int)
    · have d1 : decide (x.pr < (n : Int)) = false := decide_eq_false (by omega)
      have d2 : decide (x.pr < ((n + 1 : Nat) : Int)) = true := decide_eq_true (by omega)
      have d3 : (x.pr == (n : Int)) = true := by simpa using hp
      rw [d1, d2, d3]
      simp [one3]; omega
    · have d3 : (x.pr == (n : Int)) = false := by simpa using hp
      have d2 : decide (x.pr < ((n + 1 : Nat) : Int)) = decide (x.pr < (n : Int)) := by rw [decide_eq_decide]; omega
      rw [d2, d3]
      simp [one3]; omega
theorem sumC_cmt {l : List Ins} {n : Nat} (h : ∀ i ∈ l, 0 ≤ i.pr ∧ i.pr < n) : sumC l n = cmt l := by
  induction l with
  | nil => exact sumC_nil n
  | cons x l ih =>
    have hx := h x List.mem_cons_self
    have d1 : decide (x.pr < (n : Int)) = true := decide_eq_true hx.2
    rw [sumC_cons x l hx.1, ih (fun i hi => h i (List.mem_cons_of_mem _ hi)), d1]
    unfold cmt
    rw [List.filter_cons]
    cases x.st == 3 <;> rfl
theorem openN_sum {l : List Ins} {n : Int} (hs : Srt l) (ho : ∀ i ∈ l, okI i n = true) (k : Nat) : ((openN l k).length : Int) + sumC l k = sumK l k := by
  induction k with
  | zero => rfl
  | succ k ih =>
    rw [openN_succ, List.length_append, sumC, sumK]
    have h1 := openR_cR l k (slots l k)
    have h2 := slots_eq ho k
    have h3 := cR_cL hs k (slots l k) (fun i hi => ⟨(ok_place (ho i hi)).2.2.1, fun e => by
      have := known_ge hi
      rw [e] at this
      omega⟩)
    omega
/-- P18.7: the open ones are what is known less what is committed. -/
theorem open_count {l : List Ins} {n : Int} (h : rightT l n = true) : ((openI l n).length : Int) = sumK l n.toNat - cmt l := by
  obtain ⟨h1, h2, h3⟩ := rightT_iff.1 h
  have e : (min n 7).toNat = n.toNat := by omega
  unfold openI
  rw [e]
  have h4 := openN_sum h3 h2 n.toNat
  have h5 := sumC_cmt (l := l) (n := n.toNat) (fun i hi => by have := ok_place (h2 i hi); omega)
  omega
theorem sumK_bd {l : List Ins} {n : Int} (h : ∀ i ∈ l, okI i n = true) (k : Nat) : 0 ≤ sumK l k ∧ sumK l k ≤ 400 * k := by
  induction k with
  | zero => exact ⟨Int.le_refl _, Int.le_refl _⟩
  | succ k ih =>
    rw [sumK]
    have h1 := known_le h k
    have h2 := known_nonneg l k
    omega
/-- What is told of each open place. -/
def OpenAt (l : List Ins) (p : Int × Int) : Prop := (gotI l p.1 p.2).st ≠ 3 ∧ 1 ≤ p.2 ∧ p.2 ≤ knownI l p.1
theorem openR_mem {l : List Ins} {r : Int} {k : Nat} {p : Int × Int} (h : p ∈ openR l r k) : p.1 = r ∧ 1 ≤ p.2 ∧ p.2 ≤ k ∧ (gotI l r p.2).st ≠ 3 := by
  unfold openR at h
  obtain ⟨s, hs, rfl⟩ := List.mem_map.1 h
  obtain ⟨h1, h2⟩ := List.mem_filter.1 hs
  have h3 := List.mem_range.1 h1
  refine ⟨rfl, by show 1 ≤ (s : Int) + 1; omega, by show (s : Int) + 1 ≤ k; omega, fun e => ?_⟩
  have e' : (gotI l r ((s : Int) + 1)).st = 3 := e
  rw [e'] at h2
  cases h2
theorem openN_mem {l : List Ins} {k : Nat} {p : Int × Int} (h : p ∈ openN l k) : 0 ≤ p.1 ∧ p.1 < k ∧ OpenAt l p := by
  unfold openN at h
  obtain ⟨r, hr, hp⟩ := List.mem_flatMap.1 h
  have h1 := List.mem_range.1 hr
  obtain ⟨e, h2, h3, h4⟩ := openR_mem hp
  have hk := known_nonneg l (r : Int)
  have hsl : (slots l r : Int) ≤ knownI l r := by unfold slots; omega
  refine ⟨by omega, by omega, by rw [e]; exact h4, h2, by rw [e]; omega⟩
def PLess (a b : Int × Int) : Prop := lessP a.1 a.2 b.1 b.2 = true
theorem openR_pw (l : List Ins) (r : Int) (k : Nat) : (openR l r k).Pairwise PLess := by
  induction k with
  | zero => exact List.Pairwise.nil
  | succ k ih =>
    rw [openR_succ]
    split
    · exact ih
    · refine List.pairwise_append.2 ⟨ih, List.pairwise_singleton _ _, fun a ha b hb => ?_⟩
      rw [List.mem_singleton] at hb
      subst hb
      obtain ⟨e, h2, h3, _⟩ := openR_mem ha
      show lessP a.1 a.2 r ((k : Int) + 1) = true
      rw [lessP_iff]; omega
theorem openN_pw (l : List Ins) (k : Nat) : (openN l k).Pairwise PLess := by
  induction k with
  | zero => exact List.Pairwise.nil
  | succ k ih =>
    rw [openN_succ]
    refine List.pairwise_append.2 ⟨ih, openR_pw _ _ _, fun a ha b hb => ?_⟩
    obtain ⟨_, h1, _⟩ := openN_mem ha
    obtain ⟨e, _⟩ := openR_mem hb
    show lessP a.1 a.2 b.1 b.2 = true
    rw [lessP_iff]; omega
theorem cmt_take {l : List Ins} {k : Nat} (h : k < l.length) : cmt (l.take (k + 1)) = cmt (l.take k) + one3 (l[k].st == 3) := by
  unfold cmt
  rw [List.take_succ_eq_append_getElem h, List.filter_append, List.length_append]
  congr 1
  cases e : l[k].st == 3 <;> simp [e, one3]
theorem cmt_le (l : List Ins) : cmt l ≤ l.length := List.length_filter_le _ _
end Go.Proofs.Ytmaecknjamnnpaa.In
