/- Pure: Put as a loop over the levels. -/
import Derived.Test.YtmpkindlanadbaaLeI
namespace Go.Proofs.Ytmpkindlanadbaa.Le
def stepW (s : Int) (o : Od) (p : List Lv × Bool) (v : Lv) : List Lv × Bool :=
  if p.2 = true then (p.1 ++ [v], true) else if v.1 = opr o then (p.1 ++ [(v.1, v.2 ++ [o])], true) else if ahead s (opr o) v.1 = true then (p.1 ++ [(opr o, [o]), v], true) else (p.1 ++ [v], false)
def putW (s : Int) (o : Od) (l : List Lv) : List Lv × Bool := l.foldl (stepW s o) ([], false)
theorem putW_snoc (s : Int) (o : Od) (l : List Lv) (v : Lv) : putW s o (l ++ [v]) = stepW s o (putW s o l) v := by unfold putW; rw [List.foldl_append]; rfl
theorem stepW_done {s : Int} {o : Od} (a : List Lv) (v : Lv) : stepW s o (a, true) v = (a ++ [v], true) := by unfold stepW; rw [if_pos rfl]
theorem stepW_hit {s : Int} {o : Od} (a : List Lv) {v : Lv} (h : v.1 = opr o) : stepW s o (a, false) v = (a ++ [(v.1, v.2 ++ [o])], true) := by unfold stepW; rw [if_neg (by simp), if_pos h]
theorem stepW_new {s : Int} {o : Od} (a : List Lv) {v : Lv} (h : ¬ v.1 = opr o) (k : ahead s (opr o) v.1 = true) : stepW s o (a, false) v = (a ++ [(opr o, [o]), v], true) := by unfold stepW; rw [if_neg (by simp), if_neg h, if_pos k]
theorem stepW_on {s : Int} {o : Od} (a : List Lv) {v : Lv} (h : ¬ v.1 = opr o) (k : ahead s (opr o) v.1 = false) : stepW s o (a, false) v = (a ++ [v], false) := by unfold stepW; rw [if_neg (by simp), if_neg h, if_neg (by simp [k])]
theorem foldW_done (s : Int) (o : Od) : ∀ (l acc : List Lv), l.foldl (stepW s o) (acc, true) = (acc ++ l, true)
  | [], acc => by simp
  | v :: r, acc => by rw [List.foldl_cons, stepW_done, foldW_done]; simp
theorem foldW (s : Int) (o : Od) : ∀ (l acc : List Lv), (if (l.foldl (stepW s o) (acc, false)).2 = true then (l.foldl (stepW s o) (acc, false)).1 else (l.foldl (stepW s o) (acc, false)).1 ++ [(opr o, [o])]) = acc ++ putL s o l
  | [], acc => by simp [putL]
  | v :: r, acc => by
    rw [putL]
    by_cases h1 : v.1 = opr o
    · rw [List.foldl_cons, stepW_hit acc h1, if_pos h1, foldW_done, if_pos rfl]; simp
    · rw [if_neg h1]
      cases h2 : ahead s (opr o) v.1
      · rw [List.foldl_cons, stepW_on acc h1 h2, foldW s o r (acc ++ [v]), if_neg (by decide)]; simp
      · rw [List.foldl_cons, stepW_new acc h1 h2, if_pos rfl, foldW_done, if_pos rfl]; simp
theorem putW_put (s : Int) (o : Od) (l : List Lv) : putL s o l = if (putW s o l).2 = true then (putW s o l).1 else (putW s o l).1 ++ [(opr o, [o])] := by
  rw [putW, foldW]; simp
theorem foldW_no (s : Int) (o : Od) : ∀ (l acc : List Lv), (l.foldl (stepW s o) (acc, false)).2 = false → (l.foldl (stepW s o) (acc, false)).1 = acc ++ l
  | [], acc, _ => by simp
  | v :: r, acc, h => by
    by_cases h1 : v.1 = opr o
    · rw [List.foldl_cons, stepW_hit acc h1, foldW_done] at h; cases h
    · cases h2 : ahead s (opr o) v.1
      · rw [List.foldl_cons, stepW_on acc h1 h2] at h ⊢
        rw [foldW_no s o r _ h]; simp
      · rw [List.foldl_cons, stepW_new acc h1 h2, foldW_done] at h; cases h
theorem putW_no {s : Int} {o : Od} {l : List Lv} (h : (putW s o l).2 = false) : (putW s o l).1 = l := by
  have := foldW_no s o l [] h
  rwa [List.nil_append] at this
theorem putW_len (s : Int) (o : Od) (l : List Lv) : (putW s o l).1.length ≤ l.length + 1 := by
  suffices ∀ (l acc : List Lv) (d : Bool), (l.foldl (stepW s o) (acc, d)).1.length ≤ acc.length + l.length + (if d then 0 else 1) by
    have := this l [] false; simpa [putW] using this
  intro l
  induction l with
  | nil => intro acc d; simp
  | cons v r ih =>
    intro acc d
    rw [List.foldl_cons]
    cases d
    · by_cases h1 : v.1 = opr o
      · rw [stepW_hit acc h1]
        have := ih (acc ++ [(v.1, v.2 ++ [o])]) true; simp at this ⊢; omega
      · cases h2 : ahead s (opr o) v.1
        · rw [stepW_on acc h1 h2]
          have := ih (acc ++ [v]) false; simp at this ⊢; omega
        · rw [stepW_new acc h1 h2]
          have := ih (acc ++ [(opr o, [o]), v]) true; simp at this ⊢; omega
    · rw [stepW_done]
      have := ih (acc ++ [v]) true; simp at this ⊢; omega
end Go.Proofs.Ytmpkindlanadbaa.Le
