/- Layer 19, plain: messages, what a replica keeps of them, and what it answers. -/
import Derived.Test.YtmaecknjamnnpaaInLaw
namespace Go.Proofs.Ytmaecknjamnnpaa.An
open Go.Proofs.Ytmaecknjamnnpaa.Rc (Ins okI okV Same okI_iff okV_iff bare)
open Go.Proofs.Ytmaecknjamnnpaa.St
open Go.Proofs.Ytmaecknjamnnpaa.In
open Go.Proofs.Ytmaecknjamnnpaa.Ba (lessB valB latN latR lessB_iff lessB_no valB_iff)
open Go.Proofs.Ytmaecknjamnnpaa.Ve (zeroV maxV raiseV upd rightB okAt rightB_iff okAt_iff undB covB eqV)
open Go.Proofs.Ytmaecknjamnnpaa.Cm (meetB zeroF chkB eqF)
/-- A message. -/
structure Msg where
  k : Int
  f : Int
  t : Int
  pr : Int
  ps : Int
  bn : Int
  br : Int
  c : Nat → Int
  q : Int
  d : Nat → Int
  st : Int
  tn : Int
  tr : Int
  sm : Bool
def zeroM : Msg := ⟨0, 0, 0, 0, 0, 0, 0, zeroF, 0, zeroV, 0, 0, 0, false⟩
/-- The instance of which a message's value was taken. -/
def takenI (m : Msg) (s : Int) : Ins := ⟨m.pr, m.ps, m.bn, m.br, m.bn, m.br, s, m.c, m.q, m.d, false⟩
def kindB (k : Int) : Bool := decide (k = 1 ∨ k = 3 ∨ k = 5 ∨ k = 6)
def mayB (m : Msg) (n : Int) : Bool := kindB m.k && okI (takenI m 1) n
def staleB (i : Ins) (a b : Int) : Bool := lessB a b i.bn i.br
def commitI (i : Ins) (m : Msg) : Ins := if i.st = 3 then i else ⟨m.pr, m.ps, latN m.bn m.br i.bn i.br, latR m.bn m.br i.bn i.br, m.bn, m.br, 3, m.c, m.q, m.d, false⟩
/-- Two values compared. -/
def sameV (c : Nat → Int) (q : Int) (d : Nat → Int) (c' : Nat → Int) (q' : Int) (d' : Nat → Int) : Bool := eqF c c' && (decide (q = q') && eqV d d')
/-- What is kept of a proposal. -/
def newQ (l : List Ins) (m : Msg) : Int := max m.q (depN l m.c m.pr m.ps)
def newD (l : List Ins) (m : Msg) : Nat → Int := maxV m.d (depV l m.c m.pr m.ps)
def propI (l : List Ins) (m : Msg) : Ins := ⟨m.pr, m.ps, m.bn, m.br, m.bn, m.br, 1, m.c, newQ l m, newD l m, sameV m.c (newQ l m) (newD l m) m.c m.q m.d⟩
def againB (i : Ins) (m : Msg) : Bool := (i.tn == m.bn) && (i.tr == m.br)
def propR (l : List Ins) (i : Ins) (m : Msg) : Ins × Int := if againB i m = true ∧ i.st = 1 then (i, 2) else if againB i m = true ∧ 1 < i.st then (i, 0) else (propI l m, 2)
def promI (i : Ins) (m : Msg) : Ins := { i with bn := m.bn, br := m.br }
def reactR (l : List Ins) (i : Ins) (m : Msg) : Ins × Int :=
  if m.k = 5 then (commitI i m, 0) else if i.st = 3 then (i, 5) else if staleB i m.bn m.br = true then (i, 8) else if m.k = 1 then propR l i m else if m.k = 3 then (takenI m 2, 4) else (promI i m, 7)
/-- An answer. -/
def respM (m : Msg) (k : Int) (i : Ins) : Msg :=
  if k = 8 then ⟨8, m.t, m.f, m.pr, m.ps, i.bn, i.br, zeroF, 0, zeroV, 0, m.bn, m.br, false⟩ else ⟨k, m.t, m.f, m.pr, m.ps, m.bn, m.br, i.c, i.q, i.d, i.st, i.tn, i.tr, i.sm⟩
/-- What is heard. -/
structure Res where
  i : Ins
  r : Msg
  b : Bool
  e : Int
def hearOk (l : List Ins) (m : Msg) : Res :=
  if (reactR l (gotI l m.pr m.ps) m).2 = 0 then ⟨(reactR l (gotI l m.pr m.ps) m).1, zeroM, false, 0⟩ else ⟨(reactR l (gotI l m.pr m.ps) m).1, respM m (reactR l (gotI l m.pr m.ps) m).2 (reactR l (gotI l m.pr m.ps) m).1, true, 0⟩
def hearR (l : List Ins) (n : Int) (m : Msg) : Res := if rightT l n = true ∧ mayB m n = true then hearOk l m else ⟨gotI l m.pr m.ps, zeroM, false, 1⟩
theorem hear_ok {l : List Ins} {n : Int} {m : Msg} (h : rightT l n = true) (k : mayB m n = true) : hearR l n m = hearOk l m := if_pos ⟨h, k⟩
theorem hear_no {l : List Ins} {n : Int} {m : Msg} (h : ¬ (rightT l n = true ∧ mayB m n = true)) : hearR l n m = ⟨gotI l m.pr m.ps, zeroM, false, 1⟩ := if_neg h
theorem hear_err {l : List Ins} {n : Int} {m : Msg} (h : (hearR l n m).e = 0) : rightT l n = true ∧ mayB m n = true := by
  by_cases k : rightT l n = true ∧ mayB m n = true
  · exact k
  · rw [hear_no k] at h; cases h
theorem ok_e (l : List Ins) (m : Msg) : (hearOk l m).e = 0 := by unfold hearOk; split <;> rfl
theorem ok_i (l : List Ins) (m : Msg) : (hearOk l m).i = (reactR l (gotI l m.pr m.ps) m).1 := by unfold hearOk; split <;> rfl
theorem may_iff {m : Msg} {n : Int} : mayB m n = true ↔ (m.k = 1 ∨ m.k = 3 ∨ m.k = 5 ∨ m.k = 6) ∧ okI (takenI m 1) n = true := by
  unfold mayB kindB; rw [Bool.and_eq_true, decide_eq_true_eq]
theorem lat_swap (a b c d : Int) : latN a b c d = latN c d a b ∧ latR a b c d = latR c d a b := by
  unfold latN latR
  by_cases h : lessB c d a b = true <;> by_cases k : lessB a b c d = true
  · rw [lessB_iff] at h k; omega
  · rw [if_pos h, if_neg k, if_pos h, if_neg k]; exact ⟨rfl, rfl⟩
  · rw [if_neg h, if_pos k, if_neg h, if_pos k]; exact ⟨rfl, rfl⟩
  · rw [if_neg h, if_neg k, if_neg h, if_neg k]
    rw [lessB_iff] at h k
    omega
theorem less_self (a b : Int) : lessB a b a b = false := lessB_no.2 (by omega)
theorem less_tr {a b c d e f : Int} (h : lessB a b c d = false) (k : lessB c d e f = false) : lessB a b e f = false := by
  rw [lessB_no] at h k ⊢; omega
theorem lat_ge (a b c d : Int) : lessB (latN a b c d) (latR a b c d) a b = false ∧ lessB (latN a b c d) (latR a b c d) c d = false := by
  unfold latN latR
  by_cases h : lessB c d a b = true
  · rw [if_pos h, if_pos h]
    refine ⟨less_self _ _, ?_⟩
    rw [lessB_iff] at h; rw [lessB_no]; omega
  · rw [if_neg h, if_neg h]
    exact ⟨Bool.eq_false_iff.2 h, less_self _ _⟩
theorem lat_val {a b c d : Int} (h : valB a b = true) (k : valB c d = true) : valB (latN a b c d) (latR a b c d) = true := by
  unfold latN latR
  by_cases e : lessB c d a b = true
  · rw [if_pos e, if_pos e]; exact h
  · rw [if_neg e, if_neg e]; exact k
/-- What is kept may be. -/
structure Good (m : Msg) (n : Int) : Prop where
  n1 : 1 ≤ n ∧ n ≤ 7
  pl : 0 ≤ m.pr ∧ m.pr < n ∧ 1 ≤ m.ps ∧ m.ps ≤ 400
  bl : valB m.bn m.br = true
  vl : okV m.c m.q m.d n = true
theorem may_good {m : Msg} {n : Int} (h : mayB m n = true) : Good m n := by
  obtain ⟨a, b, c, _, _, _, g, _⟩ := okI_iff.1 (may_iff.1 h).2
  exact ⟨a, b, c, g⟩
theorem ok_of {r s a b c d st q n : Int} {co dp : Nat → Int} {sm : Bool} (h1 : 1 ≤ n ∧ n ≤ 7) (h2 : 0 ≤ r ∧ r < n ∧ 1 ≤ s ∧ s ≤ 400) (h3 : valB a b = true) (h4 : valB c d = true) (h5 : lessB a b c d = false) (h6 : 1 ≤ st ∧ st ≤ 3) (h7 : okV co q dp n = true) : okI ⟨r, s, a, b, c, d, st, co, q, dp, sm⟩ n = true :=
  okI_iff.2 ⟨h1, h2, h3, h4, h5, ⟨by show 0 ≤ st; omega, h6.2⟩, h7, .inl (by show st ≠ 0; omega)⟩
theorem zero_right {n : Int} (h : 1 ≤ n ∧ n ≤ 7) : rightB zeroV n = true := rightB_iff.2 ⟨h, fun i _ => by simp [okAt, zeroV]⟩
theorem zero_val {n : Int} (h : 1 ≤ n ∧ n ≤ 7) : okV zeroF 0 zeroV n = true := okV_iff.2 ⟨by decide, by omega, by omega, zero_right h⟩
theorem place_ok {r s n : Int} (h1 : 1 ≤ n ∧ n ≤ 7) (h2 : 0 ≤ r ∧ r < n ∧ 1 ≤ s ∧ s ≤ 400) : okI (placeI r s) n = true :=
  okI_iff.2 ⟨h1, h2, (by decide : valB 0 0 = true), (by decide : valB 0 0 = true), (by decide : lessB 0 0 0 0 = false), (by decide : (0 : Int) ≤ 0 ∧ (0 : Int) ≤ 3), zero_val h1, .inr (by decide : bare (placeI 0 0) = true)⟩
/-- What is known of a place. -/
theorem got_ok {l : List Ins} {n : Int} {m : Msg} (h : rightT l n = true) (k : Good m n) : okI (gotI l m.pr m.ps) n = true ∧ (gotI l m.pr m.ps).pr = m.pr ∧ (gotI l m.pr m.ps).ps = m.ps := by
  cases e : hasI l m.pr m.ps with
  | true =>
    have := got_mem e
    exact ⟨(rightT_iff.1 h).2.1 _ this.1, this.2⟩
  | false => rw [got_none e]; exact ⟨place_ok k.n1 k.pl, rfl, rfl⟩
theorem raise_right {v : Nat → Int} {n : Int} {i : Ins} (h : rightB v n = true) (k : okI i n = true) : rightB (raiseV v i.pr i.ps) n = true := by
  obtain ⟨h1, h2⟩ := rightB_iff.1 h
  obtain ⟨h0, hn, s1, s4⟩ := ok_place k
  refine rightB_iff.2 ⟨h1, fun j hj => ?_⟩
  have e := okAt_iff.1 (h2 j hj)
  unfold raiseV
  rw [if_pos ⟨h0, by omega⟩]
  refine okAt_iff.2 ?_
  unfold upd
  by_cases ej : j = i.pr.toNat
  · rw [if_pos ej, ← ej]
    refine ⟨by omega, by omega, fun hh => ?_⟩
    omega
  · rw [if_neg ej]; exact e
theorem gr_right {c : Nat → Int} {r s n : Int} : ∀ {l : List Ins} {v : Nat → Int}, rightB v n = true → (∀ i ∈ l, okI i n = true) → rightB (l.foldl (stepD c r s) v) n = true
  | [], _, h, _ => h
  | x :: l, v, h, k => by
    rw [List.foldl_cons]
    refine gr_right ?_ fun i hi => k i (List.mem_cons_of_mem _ hi)
    unfold stepD
    split
    · exact raise_right h (k x List.mem_cons_self)
    · exact h
theorem dep_right {l : List Ins} {n : Int} (h : rightT l n = true) (c : Nat → Int) (r s : Int) : rightB (depV l c r s) n = true := by
  obtain ⟨h1, h2, _⟩ := rightT_iff.1 h
  unfold depV
  split
  · exact zero_right h1
  · exact gr_right (zero_right h1) h2
theorem dep_num (l : List Ins) (c : Nat → Int) (r s : Int) : 0 ≤ depN l c r s ∧ depN l c r s ≤ 1073741824 := by
  unfold depN
  have := grQ_bd l c r s
  split <;> omega
theorem max_right {a b : Nat → Int} {n : Int} (h : rightB a n = true) (k : rightB b n = true) : rightB (maxV a b) n = true := by
  obtain ⟨h1, h2⟩ := rightB_iff.1 h
  obtain ⟨_, k2⟩ := rightB_iff.1 k
  refine rightB_iff.2 ⟨h1, fun j hj => okAt_iff.2 ?_⟩
  have e := okAt_iff.1 (h2 j hj)
  have f := okAt_iff.1 (k2 j hj)
  unfold maxV
  refine ⟨by omega, by omega, fun hh => ?_⟩
  have := e.2.2 hh
  have := f.2.2 hh
  omega
theorem new_ok {l : List Ins} {n : Int} {m : Msg} (h : rightT l n = true) (k : Good m n) : okV m.c (newQ l m) (newD l m) n = true := by
  obtain ⟨a, b, c, d⟩ := okV_iff.1 k.vl
  have e := dep_num l m.c m.pr m.ps
  unfold newQ newD
  exact okV_iff.2 ⟨a, by omega, by omega, max_right d (dep_right h _ _ _)⟩
theorem stale_no {i : Ins} {a b n : Int} (h : okI i n = true) (k : staleB i a b = false) : lessB a b i.tn i.tr = false :=
  less_tr k (okI_iff.1 h).2.2.2.2.1
theorem prom_ok {i : Ins} {n : Int} {m : Msg} (h : okI i n = true) (k : Good m n) (s : staleB i m.bn m.br = false) : okI (promI i m) n = true := by
  obtain ⟨a, b, _, d, _, f, g, e⟩ := okI_iff.1 h
  exact okI_iff.2 ⟨a, b, k.bl, d, stale_no (i := i) h s, f, g, e⟩
/-- What becomes of a place: all ways. -/
inductive Way (l : List Ins) (i : Ins) (m : Msg) : Ins → Int → Prop where
  | old5 (_ : m.k = 5) (_ : i.st = 3) : Way l i m i 0
  | new5 (_ : m.k = 5) (_ : i.st ≠ 3) : Way l i m ⟨m.pr, m.ps, latN m.bn m.br i.bn i.br, latR m.bn m.br i.bn i.br, m.bn, m.br, 3, m.c, m.q, m.d, false⟩ 0
  | settled (_ : m.k ≠ 5) (_ : i.st = 3) : Way l i m i 5
  | stale (_ : m.k ≠ 5) (_ : i.st ≠ 3) (_ : staleB i m.bn m.br = true) : Way l i m i 8
  | again (_ : m.k = 1) (_ : i.st = 1) (_ : staleB i m.bn m.br = false) (_ : againB i m = true) : Way l i m i 2
  | silent (_ : m.k = 1) (_ : i.st ≠ 3) (_ : 1 < i.st) (_ : staleB i m.bn m.br = false) (_ : againB i m = true) : Way l i m i 0
  | prop (_ : m.k = 1) (_ : i.st ≠ 3) (_ : staleB i m.bn m.br = false) (_ : againB i m = true → i.st ≤ 0) : Way l i m (propI l m) 2
  | acc (_ : m.k = 3) (_ : i.st ≠ 3) (_ : staleB i m.bn m.br = false) : Way l i m (takenI m 2) 4
  | prep (_ : m.k ≠ 5) (_ : m.k ≠ 1) (_ : m.k ≠ 3) (_ : i.st ≠ 3) (_ : staleB i m.bn m.br = false) : Way l i m (promI i m) 7
theorem way (l : List Ins) (i : Ins) (m : Msg) : Way l i m (reactR l i m).1 (reactR l i m).2 := by
  unfold reactR
  by_cases h5 : m.k = 5
  · rw [if_pos h5]
    unfold commitI
    by_cases h3 : i.st = 3
    · rw [if_pos h3]; exact .old5 h5 h3
    · rw [if_neg h3]; exact .new5 h5 h3
  rw [if_neg h5]
  by_cases h3 : i.st = 3
  · rw [if_pos h3]; exact .settled h5 h3
  rw [if_neg h3]
  by_cases hs : staleB i m.bn m.br = true
  · rw [if_pos hs]; exact .stale h5 h3 hs
  rw [if_neg hs]
  have hs := Bool.eq_false_iff.2 hs
  by_cases h1 : m.k = 1
  · rw [if_pos h1]
    unfold propR
    by_cases ha : againB i m = true ∧ i.st = 1
    · rw [if_pos ha]; exact .again h1 ha.2 hs ha.1
    rw [if_neg ha]
    by_cases hb : againB i m = true ∧ 1 < i.st
    · rw [if_pos hb]; exact .silent h1 h3 hb.2 hs hb.1
    rw [if_neg hb]
    exact .prop h1 h3 hs fun e => by
      have h1 : ¬ i.st = 1 := fun h => ha ⟨e, h⟩
      have h2 : ¬ 1 < i.st := fun h => hb ⟨e, h⟩
      omega
  rw [if_neg h1]
  by_cases hk : m.k = 3
  · rw [if_pos hk]; exact .acc hk h3 hs
  · rw [if_neg hk]; exact .prep h5 h1 hk h3 hs
theorem way_ok {l : List Ins} {i x : Ins} {m : Msg} {k n : Int} (h : Way l i m x k) (hl : rightT l n = true) (hi : okI i n = true) (hg : Good m n) : okI x n = true := by
  cases h with
  | old5 | settled | stale | again | silent => exact hi
  | new5 =>
    obtain ⟨_, _, c, _⟩ := okI_iff.1 hi
    exact ok_of hg.n1 hg.pl (lat_val hg.bl c) hg.bl (lat_ge _ _ _ _).1 (by decide) hg.vl
  | prop => exact ok_of hg.n1 hg.pl hg.bl hg.bl (less_self _ _) (by decide) (new_ok hl hg)
  | acc => exact ok_of hg.n1 hg.pl hg.bl hg.bl (less_self _ _) (by decide) hg.vl
  | prep _ _ _ _ s => exact prom_ok hi hg s
theorem way_place {l : List Ins} {i x : Ins} {m : Msg} {k : Int} (h : Way l i m x k) (hp : i.pr = m.pr ∧ i.ps = m.ps) : x.pr = m.pr ∧ x.ps = m.ps := by
  cases h <;> first | exact hp | exact ⟨rfl, rfl⟩
/-- P19.4. -/
theorem way_keeps {l : List Ins} {i x : Ins} {m : Msg} {k n : Int} (h : Way l i m x k) (hi : okI i n = true) :
    lessB x.bn x.br i.bn i.br = false ∧ (lessB x.tn x.tr i.tn i.tr = false ∨ x.st = 3) ∧ (i.st = 3 → x = i) ∧ ¬ (x.st < i.st ∧ x.tn = i.tn ∧ x.tr = i.tr) := by
  have h3 : i.st ≤ 3 := (okI_iff.1 hi).2.2.2.2.2.1.2
  cases h with
  | old5 | settled | stale | again | silent => exact ⟨less_self _ _, .inl (less_self _ _), fun _ => rfl, fun h => by omega⟩
  | new5 _ h => exact ⟨(lat_ge _ _ _ _).2, .inr rfl, fun e => absurd e h, fun e => by have : (3 : Int) < i.st := e.1; omega⟩
  | prop _ h s a =>
    refine ⟨s, .inl (stale_no hi s), fun e => absurd e h, fun e => ?_⟩
    have h1 : (1 : Int) < i.st := e.1
    have := a (by
      unfold againB
      rw [Bool.and_eq_true, beq_iff_eq, beq_iff_eq]
      exact ⟨e.2.1.symm, e.2.2.symm⟩)
    omega
  | acc _ h s => exact ⟨s, .inl (stale_no hi s), fun e => absurd e h, fun e => by have : (2 : Int) < i.st := e.1; omega⟩
  | prep _ _ _ h s => exact ⟨s, .inl (less_self _ _), fun e => absurd e h, fun e => by have : i.st < i.st := e.1; omega⟩
/-- P19.6: heard again. -/
theorem way_twice {l l' : List Ins} {i x : Ins} {m : Msg} {k : Int} (h : Way l i m x k) : reactR l' x m = (x, k) := by
  unfold reactR
  cases h with
  | old5 h5 h3 => rw [if_pos h5]; unfold commitI; rw [if_pos h3]
  | new5 h5 h3 => rw [if_pos h5]; unfold commitI; rw [if_pos rfl]
  | settled h5 h3 => rw [if_neg h5, if_pos h3]
  | stale h5 h3 s => rw [if_neg h5, if_neg h3, if_pos s]
  | again h1 h3 s a =>
    rw [if_neg (by omega), if_neg (by omega), if_neg (by rw [s]; decide), if_pos h1]
    unfold propR; rw [if_pos ⟨a, h3⟩]
  | silent h1 h3 h4 s a =>
    rw [if_neg (by omega), if_neg h3, if_neg (by rw [s]; decide), if_pos h1]
    unfold propR; rw [if_neg (by omega), if_pos ⟨a, h4⟩]
  | prop h1 h3 s a =>
    rw [if_neg (by omega), if_neg (show ¬ (propI l m).st = 3 by show ¬ (1 : Int) = 3; decide), if_neg (by show ¬ lessB m.bn m.br m.bn m.br = true; rw [less_self]; decide), if_pos h1]
    unfold propR; rw [if_pos ⟨by show ((m.bn == m.bn) && (m.br == m.br)) = true; simp, rfl⟩]
  | acc h1 h3 s =>
    rw [if_neg (by omega), if_neg (show ¬ (takenI m 2).st = 3 by show ¬ (2 : Int) = 3; decide), if_neg (by show ¬ lessB m.bn m.br m.bn m.br = true; rw [less_self]; decide), if_neg (by omega), if_pos h1]
  | prep h5 h1 h2 h3 s =>
    rw [if_neg h5, if_neg (by exact h3), if_neg (by show ¬ lessB m.bn m.br m.bn m.br = true; rw [less_self]; decide), if_neg h1, if_neg h2]
    rfl
end Go.Proofs.Ytmaecknjamnnpaa.An
