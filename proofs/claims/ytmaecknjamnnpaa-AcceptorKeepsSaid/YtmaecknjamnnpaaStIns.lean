/- Tables of instances, plain mathematics: places in order, put (split off from layer 17's). -/
import Derived.Test.YtmaecknjamnnpaaRcIns
namespace Go.Proofs.Ytmaecknjamnnpaa.St
set_option linter.unusedVariables false
open Go.Proofs.Ytmaecknjamnnpaa.Rc (Ins okI Same)
/-- The instance with nothing beyond its cells. -/
def cn (i : Ins) : Ins := { i with c := fun k => if k < 9 then i.c k else 0, d := fun k => if k < 7 then i.d k else 0 }
theorem cn_same (i : Ins) : Same (cn i) i := ⟨rfl, rfl, rfl, rfl, rfl, rfl, rfl, fun k hk => if_pos hk, rfl, fun k hk => if_pos hk, rfl⟩
theorem cn_eq {i j : Ins} (h : Same i j) : cn i = cn j := by
  obtain ⟨h1, h2, h3, h4, h5, h6, h7, h8, h9, h10, h11⟩ := h
  have e1 : (fun k => if k < 9 then i.c k else 0) = (fun k => if k < 9 then j.c k else 0) := by
    funext k
    by_cases hk : k < 9
    · rw [if_pos hk, if_pos hk]; exact h8 k hk
    · rw [if_neg hk, if_neg hk]
  have e2 : (fun k => if k < 7 then i.d k else 0) = (fun k => if k < 7 then j.d k else 0) := by
    funext k
    by_cases hk : k < 7
    · rw [if_pos hk, if_pos hk]; exact h10 k hk
    · rw [if_neg hk, if_neg hk]
  unfold cn; rw [h1, h2, h3, h4, h5, h6, h7, h9, h11, e1, e2]
def lessI (a b : Ins) : Bool := decide (a.pr < b.pr ∨ (a.pr = b.pr ∧ a.ps < b.ps))
def atI (a b : Ins) : Bool := decide (a.pr = b.pr ∧ a.ps = b.ps)
/-- The table with an instance in its place. -/
def put (i : Ins) : List Ins → List Ins
  | [] => [i]
  | x :: l => if lessI x i then x :: put i l else if atI x i then i :: l else i :: x :: l
def Srt (l : List Ins) : Prop := l.Pairwise fun a b => lessI a b = true
theorem lessI_iff {a b : Ins} : lessI a b = true ↔ (a.pr < b.pr ∨ (a.pr = b.pr ∧ a.ps < b.ps)) := by simp [lessI]
theorem atI_iff {a b : Ins} : atI a b = true ↔ (a.pr = b.pr ∧ a.ps = b.ps) := by simp [atI]
theorem less_trans {a b c : Ins} (h : lessI a b = true) (k : lessI b c = true) : lessI a c = true := by rw [lessI_iff] at *; omega
theorem put_mem {i x : Ins} {l : List Ins} (h : x ∈ put i l) : x = i ∨ x ∈ l := by
  induction l with
  | nil => simp [put] at h; exact .inl h
  | cons y l ih =>
    rw [put] at h
    split at h
    · rcases List.mem_cons.1 h with rfl | h
      · exact .inr List.mem_cons_self
      · exact (ih h).imp id (List.mem_cons_of_mem _)
    split at h
    · rcases List.mem_cons.1 h with rfl | h
      · exact .inl rfl
      · exact .inr (List.mem_cons_of_mem _ h)
    · rcases List.mem_cons.1 h with rfl | h
      · exact .inl rfl
      · exact .inr h
theorem put_srt (i : Ins) {l : List Ins} (h : Srt l) : Srt (put i l) := by
  induction l with
  | nil => simp [put, Srt]
  | cons y l ih =>
    obtain ⟨h1, h2⟩ := List.pairwise_cons.1 h
    rw [put]
    split
    · rename_i hy
      refine List.pairwise_cons.2 ⟨fun x hx => ?_, ih h2⟩
      rcases put_mem hx with rfl | hx
      · exact hy
      · exact h1 x hx
    split
    · rename_i hn ha
      refine List.pairwise_cons.2 ⟨fun x hx => ?_, h2⟩
      have := h1 x hx
      rw [lessI_iff] at this ⊢; rw [atI_iff] at ha; omega
    · rename_i hn ha
      have hl : lessI i y = true := by
        rw [lessI_iff]; rw [lessI_iff] at hn; rw [atI_iff] at ha; omega
      refine List.pairwise_cons.2 ⟨fun x hx => ?_, h⟩
      rcases List.mem_cons.1 hx with rfl | hx
      · exact hl
      · exact less_trans hl (h1 x hx)
theorem put_len (i : Ins) (l : List Ins) : (put i l).length ≤ l.length + 1 := by
  induction l with
  | nil => simp [put]
  | cons y l ih =>
    rw [put]
    split
    · simp; omega
    split
    · simp
    · simp
theorem put_pos (i : Ins) (l : List Ins) : l.length ≤ (put i l).length := by
  induction l with
  | nil => simp [put]
  | cons y l ih =>
    rw [put]
    split
    · simp; omega
    split
    · simp
    · simp
/-- Behind all that is less, it is put at the end. -/
theorem put_last {i : Ins} {l : List Ins} (h : ∀ x ∈ l, lessI x i = true) : put i l = l ++ [i] := by
  induction l with
  | nil => rfl
  | cons y l ih => rw [put, if_pos (h y List.mem_cons_self), ih (fun x hx => h x (List.mem_cons_of_mem _ hx))]; rfl
/-- What is less stays ahead. -/
theorem put_ahead {i : Ins} {l m : List Ins} (h : ∀ x ∈ l, lessI x i = true) : put i (l ++ m) = l ++ put i m := by
  induction l with
  | nil => rfl
  | cons y l ih => rw [List.cons_append, put, if_pos (h y List.mem_cons_self), ih (fun x hx => h x (List.mem_cons_of_mem _ hx))]; rfl
def puts (t l : List Ins) : List Ins := l.foldl (fun t i => put i t) t
theorem puts_nil (t : List Ins) : puts t [] = t := rfl
theorem puts_cons (t : List Ins) (i : Ins) (l : List Ins) : puts t (i :: l) = puts (put i t) l := rfl
theorem puts_app (t l m : List Ins) : puts t (l ++ m) = puts (puts t l) m := List.foldl_append
theorem puts_srt {t : List Ins} (l : List Ins) (h : Srt t) : Srt (puts t l) := by
  induction l generalizing t with
  | nil => exact h
  | cons i l ih => exact ih (put_srt i h)
theorem puts_mem {t l : List Ins} {x : Ins} (h : x ∈ puts t l) : x ∈ t ∨ x ∈ l := by
  induction l generalizing t with
  | nil => exact .inl h
  | cons i l ih =>
    rcases ih h with h | h
    · rcases put_mem h with rfl | h
      · exact .inr List.mem_cons_self
      · exact .inl h
    · exact .inr (List.mem_cons_of_mem _ h)
theorem puts_len (t l : List Ins) : (puts t l).length ≤ t.length + l.length := by
  induction l generalizing t with
  | nil => exact Nat.le_refl _
  | cons i l ih => have := ih (put i t); have := put_len i t; rw [puts_cons, List.length_cons]; omega
/-- A table put into another one that lies ahead of it is laid behind it. -/
theorem puts_ahead {t l : List Ins} (h : Srt (t ++ l)) : puts t l = t ++ l := by
  induction l generalizing t with
  | nil => simp [puts_nil]
  | cons i l ih =>
    have h1 : ∀ x ∈ t, lessI x i = true := fun x hx => (List.pairwise_append.1 h).2.2 x hx i List.mem_cons_self
    rw [puts_cons, put_last h1, ih (by simpa [List.append_assoc] using h)]; simp
theorem puts_self {t : List Ins} (h : Srt t) : puts [] t = t := puts_ahead h
end Go.Proofs.Ytmaecknjamnnpaa.St
