/- Lemmas for Put of package level: a level put in, an order put behind a level's. -/
import Derived.Test.YtfnmmknbjfmagaaLvH
import Derived.Test.YtfnmmknbjfmagaaLvL
import Derived.Test.YtfnmmknbjfmagaaLeK
namespace Go.Proofs.Ytfnmmknbjfmagaa.Le
open Go.RowKit
set_option linter.unusedVariables false
open Go.Proofs.Ytfnmmknbjfmagaa.Rw
open Go.Proofs.Ytfnmmknbjfmagaa.Da
open Go.Proofs.Ytfnmmknbjfmagaa.Ro
def insA {α : Type} (i : Nat) (x : α) (l : List α) : List α := l.take i ++ [x] ++ l.drop i
theorem insA_len {α : Type} {i : Nat} {x : α} {l : List α} (h : i ≤ l.length) : (insA i x l).length = l.length + 1 := by
  unfold insA; simp only [List.length_append, List.length_take, List.length_drop, List.length_singleton]; omega
theorem insA_get {α : Type} {i : Nat} {x : α} {l : List α} (h : i ≤ l.length) (j : Nat) : (insA i x l)[j]? = if j < i then l[j]? else if j = i then some x else l[j - 1]? := by
  unfold insA
  rw [List.append_assoc]
  by_cases h1 : j < i
  · rw [if_pos h1, List.getElem?_append_left (by rw [List.length_take]; omega), List.getElem?_take, if_pos h1]
  · rw [if_neg h1, List.getElem?_append_right (by rw [List.length_take]; omega), List.length_take, Nat.min_eq_left h]
    by_cases h2 : j = i
    · subst h2; rw [if_pos rfl, Nat.sub_self]; rfl
    · rw [if_neg h2, List.getElem?_append_right (by simp; omega), List.length_singleton, List.getElem?_drop]
      congr 1; omega
theorem putL_at {s : Int} {o : Od} : ∀ {l : List Lv}, putL s o l = if h : cntA s (opr o) l < l.length ∧ (l[cntA s (opr o) l]?.map (·.1)) = some (opr o) then l.set (cntA s (opr o) l) (opr o, (l[cntA s (opr o) l]'h.1).2 ++ [o]) else insA (cntA s (opr o) l) (opr o, [o]) l
  | [] => by simp [putL, insA]
  | v :: r => by
    rw [putL]
    by_cases e1 : v.1 = opr o
    · have h0 : cntA s (opr o) (v :: r) = 0 := by unfold cntA; rw [List.takeWhile_cons, e1, ahead_irrefl]; rfl
      rw [if_pos e1, dif_pos ⟨by rw [h0]; simp, by rw [h0]; simp [e1]⟩]
      simp only [h0, List.set_cons_zero, List.getElem_cons_zero, e1]
    · rw [if_neg e1]
      by_cases e2 : ahead s (opr o) v.1 = true
      · have h0 : cntA s (opr o) (v :: r) = 0 := by unfold cntA; rw [List.takeWhile_cons, ahead_asymm e2]; rfl
        rw [if_pos e2, dif_neg (by rintro ⟨_, h⟩; rw [h0] at h; simp at h; exact e1 h)]
        simp [h0, insA]
      · have e3 : ahead s v.1 (opr o) = true := by
          cases e : ahead s v.1 (opr o)
          · exact absurd (ahead_tri e (by simpa using e2)) e1
          · rfl
        have h0 : cntA s (opr o) (v :: r) = cntA s (opr o) r + 1 := by unfold cntA; rw [List.takeWhile_cons, e3]; simp
        have ih := putL_at (s := s) (o := o) (l := r)
        rw [if_neg e2]
        by_cases hc : cntA s (opr o) r < r.length ∧ (r[cntA s (opr o) r]?.map (·.1)) = some (opr o)
        · rw [dif_pos hc] at ih
          rw [dif_pos ⟨by rw [h0]; simpa using hc.1, by rw [h0]; simpa using hc.2⟩, ih]
          simp only [h0, List.set_cons_succ, List.getElem_cons_succ]
        · rw [dif_neg hc] at ih
          rw [dif_neg (by rintro ⟨h1, h2⟩; rw [h0] at h1 h2; exact hc ⟨by simpa using h1, by simpa using h2⟩), ih, h0]
          simp [insA]
theorem cntA_le (s p : Int) (l : List Lv) : cntA s p l ≤ l.length := by
  unfold cntA; exact (List.takeWhile_prefix _).length_le
theorem putL_ins {s : Int} {o : Od} {l : List Lv} {i : Nat} (hi : cntA s (opr o) l = i) (h : ∀ (hl : i < l.length), l[i].1 ≠ opr o) : putL s o l = insA i (opr o, [o]) l := by
  subst hi
  rw [putL_at, dif_neg]
  rintro ⟨h1, h2⟩
  rw [List.getElem?_eq_getElem h1] at h2
  simp only [Option.map_some, Option.some.injEq] at h2
  exact h h1 h2
theorem putL_set {s : Int} {o : Od} {l : List Lv} {i : Nat} (hi : cntA s (opr o) l = i) (hl : i < l.length) (he : l[i].1 = opr o) : putL s o l = l.set i (opr o, l[i].2 ++ [o]) := by
  subst hi
  rw [putL_at, dif_pos ⟨hl, by rw [List.getElem?_eq_getElem hl]; simp [he]⟩]
theorem insA_set {α : Type} {i : Nat} {x y : α} {l : List α} (h : i ≤ l.length) : (insA i x l).set i y = insA i y l := by
  unfold insA
  rw [List.append_assoc, List.append_assoc, List.set_append_right _ _ (by rw [List.length_take]; omega), List.length_take, Nat.min_eq_left h, Nat.sub_self]
  rfl
/-- A level without orders put in between. -/
theorem Mine.ins {B : Bs} {Bo : Nat} {l : List Lv} {hs : List Hw} {w : World} (h : Mine B Bo l hs w) {i : Nat} (hi : i ≤ l.length) (p : Int) : Mine B Bo (insA i (p, []) l) (insA i (p, none, 0, 0) hs) w := by
  have hl := h.len
  refine ⟨by rw [insA_len hi, insA_len (by omega), hl], fun j x y hx hy => ?_, fun j k y z g hjk hy hz hyg hzg => ?_⟩
  · rw [insA_get hi] at hx
    rw [insA_get (by omega)] at hy
    by_cases h1 : j < i
    · rw [if_pos h1] at hx hy; exact h.own j x y hx hy
    · rw [if_neg h1] at hx hy
      by_cases h2 : j = i
      · rw [if_pos h2] at hx hy
        obtain rfl := Option.some.inj hx
        obtain rfl := Option.some.inj hy
        exact ⟨rfl, Own.nil _ _ _⟩
      · rw [if_neg h2] at hx hy; exact h.own _ x y hx hy
  · rw [insA_get (by omega)] at hy hz
    have hno : ∀ {q : Hw} {n : Nat}, (if n < i then hs[n]? else if n = i then some (p, none, 0, 0) else hs[n - 1]?) = some q → (hv q).ownBlock = some g → n ≠ i ∧ hs[if n < i then n else n - 1]? = some q := by
      intro q n hq hg
      by_cases h1 : n < i
      · rw [if_pos h1] at hq ⊢; exact ⟨by omega, hq⟩
      · rw [if_neg h1] at hq ⊢
        by_cases h2 : n = i
        · rw [if_pos h2] at hq
          obtain rfl := Option.some.inj hq
          cases hg
        · rw [if_neg h2] at hq; exact ⟨h2, hq⟩
    obtain ⟨n1, a1⟩ := hno hy hyg
    obtain ⟨n2, a2⟩ := hno hz hzg
    refine h.apart _ _ y z g ?_ a1 a2 hyg hzg
    split <;> split <;> omega
/-- An order appended to the orders of level i, ahead of the store into the levels' row. -/
theorem appAt {B : Bs} {Bo G C : Nat} {L : List Lv} {ys : List Hw} {W : World} (hB : B.le Bo) (hBo : Bo ≤ W.heap.size) (hG : Bo ≤ G) (hrow : RowF G C ys W) (hM : Mine B Bo L ys W) {i : Nat} {x : Lv} {y : Hw} (hx : L[i]? = some x) (hy : ys[i]? = some y) (hm : x.2.length ≤ 1000000) (o : Od) :
    ∃ a' n' c' w6, appRun Try.prog 46 46 (hv y) (.slice (some ⟨W.heap.size, 0, none⟩) 1 1) (W.alloc (.cells #[.int .i64 o.1, .int .i64 o.2.1, .int .i64 o.2.2.1, .int .i64 o.2.2.2.1, .int .i64 o.2.2.2.2] 31)).drew = .ok (.slice a' n' c') w6 ∧ Below Bo W w6 ∧ G < w6.heap.size ∧
      (w6.cell? ⟨G, i * 2 + 1, none⟩ = some (hv y) ∧ w6.frozen? ⟨G, i * 2 + 1, none⟩ = false) ∧
      LvS B (L.set i (x.1, x.2 ++ [o])) (ys.set i (y.1, a', n', c')) (w6.setCell ⟨G, i * 2 + 1, none⟩ (.slice a' n' c')) ∧ RowF G C (ys.set i (y.1, a', n', c')) (w6.setCell ⟨G, i * 2 + 1, none⟩ (.slice a' n' c')) := by
  have hb1 : Below W.heap.size W (W.alloc (.cells #[.int .i64 o.1, .int .i64 o.2.1, .int .i64 o.2.2.1, .int .i64 o.2.2.2.1, .int .i64 o.2.2.2.2] 31)).drew := (below1 W _).drew
  have hz1 : (W.alloc (.cells #[.int .i64 o.1, .int .i64 o.2.1, .int .i64 o.2.2.1, .int .i64 o.2.2.2.1, .int .i64 o.2.2.2.2] 31)).drew.heap.size = W.heap.size + 1 := by simp
  have hM1 := hM.stays hb1
  have hr1 := hrow.stays hb1
  have hsrc : Is eO 31 B [o] (.slice (some ⟨W.heap.size, 0, none⟩) 1 1) (W.alloc (.cells #[.int .i64 o.1, .int .i64 o.2.1, .int .i64 o.2.2.1, .int .i64 o.2.2.2.1, .int .i64 o.2.2.2.2] 31)).drew :=
    Is.stays eO 31 (Is.one (e := eO) (x := o) (cs := cellsO o) (hB.mono hBo) rfl) (Below.refl _ _).drew
  obtain ⟨v', w', hrun, hown, hg, hbl, hkp⟩ := Own.append elemO 46 typesO hB (by rw [hz1]; omega) (hM1.own i x y hx hy).2 hsrc (by simp only [List.length_singleton]; omega) (by omega)
  obtain ⟨a', n', c', rfl⟩ : ∃ a n c, v' = .slice a n c := by obtain ⟨a, c, h⟩ := (hown.is (by decide) hB).len; exact ⟨a, _, c, h⟩
  have hlow := hbl _ W (Nat.le_refl _) (hb1.mono hBo)
  have hrow6 : RowF G C ys w' := by
    obtain ⟨cur, hgg, _⟩ := hr1.ex
    exact hr1.block (((hkp [48] (by decide)).block _ _ hgg (.inr ⟨_, _, _, rfl, by simp, fun hx => by have := hB.2 _ hx; omega⟩)).trans hgg.symm)
  obtain ⟨_, c1, _, f1⟩ := rowF_at hrow6 hy
  have hset := hrow6.setCell (i := i) (j := 1) (x := y) (y := (y.1, a', n', c')) (u := .slice a' n' c') hy (by decide) rfl
  have hgr := setCell_grown w' G (i * 2 + 1) (.slice a' n' c')
  have hk2 : Keeps B [31] w' (w'.setCell ⟨G, i * 2 + 1, none⟩ (.slice a' n' c')) := hrow6.keeps (by have := hB.1; omega) (by decide) hgr
  refine ⟨a', n', c', w', hrun, hlow, hrow6.lt, ⟨c1, f1⟩, ⟨by rw [List.length_set, List.length_set, hM.len], fun j u z hu hz => ?_⟩, hset⟩
  by_cases e : i = j
  · subst e
    have hil : i < L.length := (List.getElem?_eq_some_iff.1 hx).1
    have hiy : i < ys.length := (List.getElem?_eq_some_iff.1 hy).1
    rw [List.getElem?_set_self hil] at hu
    rw [List.getElem?_set_self hiy] at hz
    obtain rfl := Option.some.inj hu
    obtain rfl := Option.some.inj hz
    exact ⟨(hM.own i x y hx hy).1, Is.keep eO 31 (hown.is (by decide) hB) hk2⟩
  · rw [List.getElem?_set_ne e] at hu hz
    obtain ⟨h1, h2⟩ := hM1.own j u z hu hz
    refine ⟨h1, Is.keep eO 31 ((ownO_grown h2 hg fun g hg1 hg2 => ?_).is (by decide) hB) hk2⟩
    rcases Nat.lt_or_gt_of_ne e with hi | hi
    · exact hM.apart i j y z g hi hy hz hg2 hg1
    · exact hM.apart j i z y g hi hz hy hg1 hg2
/-- A level's row with what its slices hold is a list of levels. -/
theorem rowF_ll {B : Bs} {G C Bo : Nat} {L : List Lv} {ys : List Hw} {w : World} (hB : B.le Bo) (hG : Bo ≤ G) (hC : C ≤ maxLen) (h : LvS B L ys w) (hr : RowF G C ys w) : LL B L (.slice (some ⟨G, 0, none⟩) ys.length C) w :=
  h.ll ((hr.own (B := B) hG hC).is (by decide) hB)
/-- One level that was just made. -/
theorem row_one (w : World) (p : Int) : RowF w.heap.size 1 [(p, none, 0, 0)] (w.alloc (.cells #[.int .i64 p, .slice none 0 0] 48)) := by
  refine ⟨⟨[.int .i64 p, .slice none 0 0], heap_alloc_new w _, rfl, fun i x hx j u hu => ?_⟩, by simp⟩
  cases i with
  | zero =>
    simp at hx
    subst hx
    show _ = _
    rw [Nat.zero_mul, Nat.zero_add]
    exact hu
  | succ i => simp at hx
end Go.Proofs.Ytfnmmknbjfmagaa.Le
