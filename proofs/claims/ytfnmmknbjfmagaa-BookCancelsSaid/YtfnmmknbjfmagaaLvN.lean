/- Lemmas for Remove of package level. -/
import Derived.Test.YtfnmmknbjfmagaaLvD
import Derived.Test.YtfnmmknbjfmagaaLvJ
import Derived.Test.YtfnmmknbjfmagaaLvL
import Derived.Test.YtfnmmknbjfmagaaBkLaw
namespace Go.Proofs.Ytfnmmknbjfmagaa.Le
open Go.RowKit
set_option linter.unusedVariables false
open Go.Proofs.Ytfnmmknbjfmagaa.Rw
open Go.Proofs.Ytfnmmknbjfmagaa.Da
open Go.Proofs.Ytfnmmknbjfmagaa.Ro
def neL (v : Lv) : Bool := !v.2.isEmpty
theorem remL_tt (id : Int) : ∀ (l : List Lv), remL id l true = l.filter neL
  | [] => rfl
  | v :: r => by
    rw [remL, Bool.true_or, remL_tt id r, List.filter_cons]
    unfold remS neL
    rw [remO_true]
    by_cases h : v.2 = []
    · rw [if_pos h, h]; rfl
    · rw [if_neg h]
      have : (!v.2.isEmpty) = true := by cases e : v.2 with
        | nil => exact absurd e h
        | cons => rfl
      rw [this]; rfl
theorem remO_no {id : Int} {os : List Od} (h : os.any (hasId id) = false) : remO id os false = os :=
  remO_none fun o ho e => by
    have := List.any_eq_true.2 ⟨o, ho, show hasId id o = true by simpa [hasId] using e⟩
    rw [h] at this; cases this
theorem remO_at {id : Int} : ∀ {os : List Od} {a : Nat} (ha : a < os.length), os[a].1 = id → (os.take a).any (hasId id) = false → remO id os false = os.take a ++ os.drop (a + 1)
  | [], a, ha, _, _ => by cases ha
  | o :: r, 0, _, h1, _ => by
    have : hasId id o = true := by simpa [hasId] using h1
    rw [remO, this]
    simp [remO_true]
  | o :: r, a + 1, ha, h1, h2 => by
    rw [List.take_succ_cons, List.any_cons, Bool.or_eq_false_iff] at h2
    rw [remO, h2.1]
    have ih := remO_at (os := r) (a := a) (by simpa using ha) (by simpa using h1) h2.2
    simp [ih]
/-- None of the first k levels has that order. -/
def NoId (id : Int) (l : List Lv) (k : Nat) : Prop := ∀ v ∈ l.take k, v.2.any (hasId id) = false
theorem NoId.snoc {id : Int} {l : List Lv} {k : Nat} (hk : k < l.length) (h : NoId id l k) (hv : l[k].2.any (hasId id) = false) : NoId id l (k + 1) := by
  unfold NoId
  rw [Da.take_snoc hk]
  intro v hm
  rcases List.mem_append.1 hm with hm | hm
  · exact h v hm
  · simp only [List.mem_singleton] at hm; rw [hm]; exact hv
theorem remL_no {id : Int} : ∀ {l : List Lv}, (∀ v ∈ l, v.2.any (hasId id) = false) → remL id l false = l.filter neL ∧ fnd (flat l) id = none
  | [], _ => ⟨rfl, rfl⟩
  | v :: r, h => by
    obtain ⟨h1, h2⟩ := remL_no (l := r) fun u hu => h u (List.mem_cons_of_mem _ hu)
    have hv := h v List.mem_cons_self
    refine ⟨?_, by rw [flat_cons, fnd_none_app hv]; exact h2⟩
    rw [remL, hv, Bool.or_self, h1, List.filter_cons]
    unfold remS neL
    rw [remO_no hv]
    by_cases e : v.2 = []
    · rw [if_pos e, e]; rfl
    · rw [if_neg e]
      have : (!v.2.isEmpty) = true := by cases e2 : v.2 with
        | nil => exact absurd e2 e
        | cons => rfl
      rw [this]; rfl
theorem remL_at {id : Int} : ∀ {l : List Lv} {k : Nat} (hk : k < l.length) {a : Nat} (ha : a < l[k].2.length), NoId id l k → l[k].2[a].1 = id → (l[k].2.take a).any (hasId id) = false →
    remL id l false = (l.set k (l[k].1, l[k].2.take a ++ l[k].2.drop (a + 1))).filter neL ∧ fnd (flat l) id = some l[k].2[a]
  | [], k, hk, _, _, _, _, _ => by cases hk
  | v :: r, 0, _, a, ha, _, h1, h2 => by
    simp only [List.getElem_cons_zero] at ha h1 h2 ⊢
    refine ⟨?_, by rw [flat_cons, fnd_at_app ha h1 h2]⟩
    have hany : v.2.any (hasId id) = true := List.any_eq_true.2 ⟨_, List.getElem_mem ha, by simpa [hasId] using h1⟩
    rw [remL, hany, Bool.or_true, remL_tt, List.set_cons_zero, List.filter_cons]
    unfold remS neL
    rw [remO_at ha h1 h2]
    simp only
    by_cases e : v.2.take a ++ v.2.drop (a + 1) = []
    · rw [if_pos e, e]; rfl
    · rw [if_neg e]
      have : (!(v.2.take a ++ v.2.drop (a + 1)).isEmpty) = true := by cases e2 : v.2.take a ++ v.2.drop (a + 1) with
        | nil => exact absurd e2 e
        | cons => rfl
      rw [this]; rfl
  | v :: r, k + 1, hk, a, ha, h, h1, h2 => by
    simp only [List.getElem_cons_succ] at ha h1 h2 ⊢
    have hv := h v (by rw [List.take_succ_cons]; exact List.mem_cons_self)
    obtain ⟨i1, i2⟩ := remL_at (l := r) (k := k) (by simpa using hk) ha (fun u hu => h u (by rw [List.take_succ_cons]; exact List.mem_cons_of_mem _ hu)) h1 h2
    refine ⟨?_, by rw [flat_cons, fnd_none_app hv]; exact i2⟩
    rw [remL, hv, Bool.or_self, i1, List.set_cons_succ, List.filter_cons]
    unfold remS
    rw [remO_no hv]
    by_cases e : v.2 = []
    · rw [if_pos e]; simp [neL, e]
    · rw [if_neg e]
      have : neL v = true := by unfold neL; cases e2 : v.2 with
        | nil => exact absurd e2 e
        | cons => rfl
      rw [this]; rfl
theorem Mine.lvs {B : Bs} {Bo : Nat} {l : List Lv} {hs : List Hw} {w : World} (hB : B.le Bo) (h : Mine B Bo l hs w) : LvS B l hs w :=
  ⟨h.len, fun i x y hx hy => ⟨(h.own i x y hx hy).1, (h.own i x y hx hy).2.is (by decide) hB⟩⟩
theorem full_ne {B : Bs} {x : Lv} {y : Hw} {w : World} (h : OL B x.2 (hv y) w) : full y = neL x ∧ y.2.2.1 = x.2.length := by
  obtain ⟨a, c, e⟩ := h.len
  simp only [hv, Value.slice.injEq] at e
  refine ⟨?_, e.2.1⟩
  unfold full neL
  rw [e.2.1]
  cases x.2 <;> simp
theorem LvS.cons {B : Bs} {x : Lv} {y : Hw} {L : List Lv} {ms : List Hw} {w : World} (h : LvS B (x :: L) (y :: ms) w) : (y.1 = x.1 ∧ OL B x.2 (hv y) w) ∧ LvS B L ms w :=
  ⟨h.at' 0 x y rfl rfl, by have := h.len; simpa using this, fun i a b ha hb => h.at' (i + 1) a b (by simpa using ha) (by simpa using hb)⟩
theorem LvS.cons' {B : Bs} {x : Lv} {y : Hw} {L : List Lv} {ms : List Hw} {w : World} (h1 : y.1 = x.1 ∧ OL B x.2 (hv y) w) (h2 : LvS B L ms w) : LvS B (x :: L) (y :: ms) w :=
  ⟨by have := h2.len; simp [this], fun i a b ha hb => by
    cases i with
    | zero =>
      simp at ha hb; subst ha; subst hb; exact h1
    | succ i => exact h2.at' i a b (by simpa using ha) (by simpa using hb)⟩
theorem LvS.filter {B : Bs} {w : World} : ∀ {L : List Lv} {ms : List Hw}, LvS B L ms w → LvS B (L.filter neL) (ms.filter full) w
  | [], ms, h => by
    obtain rfl : ms = [] := List.length_eq_zero_iff.1 h.len
    exact LvS.nil _ _
  | x :: L, [], h => by have := h.len; simp at this
  | x :: L, y :: ms, h => by
    obtain ⟨h1, h2⟩ := h.cons
    have hf := (full_ne h1.2).1
    have ih := h2.filter
    rw [List.filter_cons, List.filter_cons, hf]
    cases neL x
    · exact ih
    · exact LvS.cons' h1 ih
theorem LvS.bd {B : Bs} {w : World} {L : List Lv} {ms : List Hw} (h : LvS B L ms w) (hf : (flat L).length ≤ 1000000) : ∀ y ∈ ms, y.2.2.1 ≤ 1000000 := by
  intro y hy
  obtain ⟨i, hi, rfl⟩ := List.getElem_of_mem hy
  have hiL : i < L.length := by rw [← h.len]; exact hi
  obtain ⟨_, h2⟩ := h.at' i _ _ (List.getElem?_eq_getElem hiL) (List.getElem?_eq_getElem hi)
  rw [(full_ne h2).2]
  have h3 := flat_take_le L (i + 1)
  rw [flat_take_snoc hiL, List.length_append] at h3
  omega
/-- A level's order is taken out of the level's own row: what lies then, ahead of the store into the levels' row. -/
theorem delAt {B : Bs} {Bo g2 cap : Nat} {L : List Lv} {ys : List Hw} {W W' : World} (hB : B.le Bo) (hM : Mine B Bo L ys W) {i k : Nat} {x : Lv} {y : Hw} (hx : L[i]? = some x) (hy : ys[i]? = some y) (hg : hv y = .slice (some ⟨g2, 0, none⟩) (k + 1) cap) (hBg : Bo ≤ g2) (hcap : cap ≤ maxLen)
    {os : List Od} (hr : RowO g2 cap os W') (hlen : os.length = k) (hgr : W.grownBy W' (some g2)) {G C : Nat} (hrow : RowF G C ys W') (hG : Bo ≤ G) :
    LvS B (L.set i (x.1, os)) (ys.set i (y.1, some ⟨g2, 0, none⟩, k, cap)) (W'.setCell ⟨G, i * 2 + 1, none⟩ (.slice (some ⟨g2, 0, none⟩) k cap)) ∧ RowF G C (ys.set i (y.1, some ⟨g2, 0, none⟩, k, cap)) (W'.setCell ⟨G, i * 2 + 1, none⟩ (.slice (some ⟨g2, 0, none⟩) k cap)) := by
  have hset := hrow.setCell (i := i) (j := 1) (x := y) (y := (y.1, some ⟨g2, 0, none⟩, k, cap)) (u := .slice (some ⟨g2, 0, none⟩) k cap) hy (by decide) rfl
  have hgr2 := setCell_grown W' G (i * 2 + 1) (.slice (some ⟨g2, 0, none⟩) k cap)
  have hk2 : Keeps B [31] W' (W'.setCell ⟨G, i * 2 + 1, none⟩ (.slice (some ⟨g2, 0, none⟩) k cap)) := hrow.keeps (by have := hB.1; omega) (by decide) hgr2
  refine ⟨⟨by rw [List.length_set, List.length_set, hM.len], fun j u z hu hz => ?_⟩, hset⟩
  by_cases e : i = j
  · subst e
    have hil : i < L.length := (List.getElem?_eq_some_iff.1 hx).1
    have hiy : i < ys.length := (List.getElem?_eq_some_iff.1 hy).1
    rw [List.getElem?_set_self hil] at hu
    rw [List.getElem?_set_self hiy] at hz
    obtain rfl := Option.some.inj hu
    obtain rfl := Option.some.inj hz
    have ho : OwnO B Bo os (.slice (some ⟨g2, 0, none⟩) os.length cap) W' := hr.own hBg hcap
    rw [hlen] at ho
    exact ⟨(hM.own i x y hx hy).1, Is.keep eO 31 (ho.is (by decide) hB) hk2⟩
  · rw [List.getElem?_set_ne e] at hu hz
    obtain ⟨h1, h2⟩ := hM.own j u z hu hz
    refine ⟨h1, Is.keep eO 31 ((ownO_grown h2 hgr fun g hg1 hg2 => ?_).is (by decide) hB) hk2⟩
    obtain rfl : g2 = g := Option.some.inj hg2
    have hyo : (hv y).ownBlock = some g2 := by rw [hg]; rfl
    rcases Nat.lt_or_gt_of_ne e with hi | hi
    · exact hM.apart i j y z g2 hi hy hz hyo hg1
    · exact hM.apart j i z y g2 hi hz hy hg1 hyo
/-- A row of the call's own, and its orders' cells. -/
theorem rowO_of {B : Bs} {Bo : Nat} {os : List Od} {v : Value} {w : World} (h : OwnO B Bo os v w) {a : Nat} (ha : a < os.length) : ∃ g cap, v = .slice (some ⟨g, 0, none⟩) os.length cap ∧ Bo ≤ g ∧ cap ≤ maxLen ∧ RowO g cap os w := by
  rcases Row.ofOwn (e := fO) (show Own fO.enc 31 B Bo os v w from h) with ⟨_, e⟩ | ⟨g, cap, h1, h2, h3, h4⟩
  · rw [e] at ha; cases ha
  · exact ⟨g, cap, h1, h2, h3, h4⟩
theorem rowO_at {g cap : Nat} {os : List Od} {u : World} (h : RowO g cap os u) {i : Nat} {o : Od} (ho : os[i]? = some o) : u.cell? ⟨g, i * 5, none⟩ = some (.int .i64 o.1) ∧ u.cell? ⟨g, i * 5 + 1, none⟩ = some (.int .i64 o.2.1) ∧ u.cell? ⟨g, i * 5 + 2, none⟩ = some (.int .i64 o.2.2.1) ∧ u.cell? ⟨g, i * 5 + 3, none⟩ = some (.int .i64 o.2.2.2.1) ∧ u.cell? ⟨g, i * 5 + 4, none⟩ = some (.int .i64 o.2.2.2.2) :=
  ⟨h.cell ho (j := 0) rfl, h.cell ho (j := 1) rfl, h.cell ho (j := 2) rfl, h.cell ho (j := 3) rfl, h.cell ho (j := 4) rfl⟩
/-- Levels with rows of their own, wherever. -/
def MyL (B : Bs) (Bo : Nat) (l : List Lv) (v : Value) (w : World) : Prop := ∃ hs, Is eF 48 B hs v w ∧ Mine B Bo l hs w
theorem MyL.keep {B : Bs} {Bo : Nat} {l : List Lv} {v : Value} {w w' : World} (hB : B.le Bo) (h : MyL B Bo l v w) (hk : Keeps B [48, 31] w w') : MyL B Bo l v w' := by
  obtain ⟨hs, h1, h2⟩ := h
  exact ⟨hs, Is.keep eF 48 h1 (hk.less (by simp [eF, Enc.flat])), h2.keep hB (hk.less (by simp))⟩
theorem MyL.stays {B : Bs} {Bo : Nat} {l : List Lv} {v : Value} {w w' : World} (h : MyL B Bo l v w) (hb : Below w.heap.size w w') : MyL B Bo l v w' := by
  obtain ⟨hs, h1, h2⟩ := h
  exact ⟨hs, Is.stays eF 48 h1 hb, h2.stays hb⟩
theorem MyL.up {A B : Bs} {Bo Bo' : Nat} {l : List Lv} {v : Value} {w : World} (hB : A.sub B) (h : MyL A Bo' l v w) (k : Bo ≤ Bo') : MyL B Bo l v w := by
  obtain ⟨hs, h1, h2⟩ := h
  exact ⟨hs, Is.up eF 48 hB h1, h2.len, fun i x y hx hy => ⟨(h2.own i x y hx hy).1, Own.lower (h2.own i x y hx hy).2 k⟩, h2.apart⟩
theorem MyL.ll {B : Bs} {Bo : Nat} {l : List Lv} {v : Value} {w : World} (hB : B.le Bo) (h : MyL B Bo l v w) : LL B l v w := by
  obtain ⟨hs, h1, h2⟩ := h
  exact (h2.lvs hB).ll h1
theorem Mine.cons {B : Bs} {Bo : Nat} {x : Lv} {y : Hw} {L : List Lv} {ms : List Hw} {w : World} (h : Mine B Bo (x :: L) (y :: ms) w) : (y.1 = x.1 ∧ OwnO B Bo x.2 (hv y) w) ∧ Mine B Bo L ms w ∧ ∀ z ∈ ms, ∀ g, (hv y).ownBlock = some g → (hv z).ownBlock ≠ some g :=
  ⟨h.own 0 x y rfl rfl, ⟨by have := h.len; simpa using this, fun i a b ha hb => h.own (i + 1) a b (by simpa using ha) (by simpa using hb), fun i j a b g hij ha hb => h.apart (i + 1) (j + 1) a b g (by omega) (by simpa using ha) (by simpa using hb)⟩, fun z hz g hg => by
    obtain ⟨j, hj, rfl⟩ := List.getElem_of_mem hz
    exact h.apart 0 (j + 1) y _ g (by omega) rfl (by simp [List.getElem?_eq_getElem hj]) hg⟩
theorem Mine.cons' {B : Bs} {Bo : Nat} {x : Lv} {y : Hw} {L : List Lv} {ms : List Hw} {w : World} (h1 : y.1 = x.1 ∧ OwnO B Bo x.2 (hv y) w) (h2 : Mine B Bo L ms w) (h3 : ∀ z ∈ ms, ∀ g, (hv y).ownBlock = some g → (hv z).ownBlock ≠ some g) : Mine B Bo (x :: L) (y :: ms) w :=
  ⟨by have := h2.len; simp [this], fun i a b ha hb => by
    cases i with
    | zero =>
      simp at ha hb; subst ha; subst hb; exact h1
    | succ i => exact h2.own i a b (by simpa using ha) (by simpa using hb), fun i j a b g hij ha hb hg => by
    cases j with
    | zero => omega
    | succ j =>
      have hb' : ms[j]? = some b := by simpa using hb
      cases i with
      | zero =>
        simp at ha; subst ha
        exact h3 b (List.mem_of_getElem? hb') g hg
      | succ i => exact h2.apart i j a b g (by omega) (by simpa using ha) hb' hg⟩
theorem Mine.filter {B : Bs} {Bo : Nat} {w : World} (hB : B.le Bo) : ∀ {L : List Lv} {ms : List Hw}, Mine B Bo L ms w → Mine B Bo (L.filter neL) (ms.filter full) w
  | [], ms, h => by
    obtain rfl : ms = [] := List.length_eq_zero_iff.1 h.len
    exact Mine.nil _ _ _
  | x :: L, [], h => by have := h.len; simp at this
  | x :: L, y :: ms, h => by
    obtain ⟨h1, h2, h3⟩ := h.cons
    have hf := (full_ne (h1.2.is (by decide) hB)).1
    have ih := Mine.filter hB h2
    rw [List.filter_cons, List.filter_cons, hf]
    cases neL x
    · exact ih
    · exact Mine.cons' h1 ih fun z hz => h3 z (List.mem_filter.1 hz).1
/-- As delAt, with the rows. -/
theorem delAtM {B : Bs} {Bo g2 cap : Nat} {L : List Lv} {ys : List Hw} {W W' : World} (hB : B.le Bo) (hM : Mine B Bo L ys W) {i k : Nat} {x : Lv} {y : Hw} (hx : L[i]? = some x) (hy : ys[i]? = some y) (hg : hv y = .slice (some ⟨g2, 0, none⟩) (k + 1) cap) (hBg : Bo ≤ g2) (hcap : cap ≤ maxLen)
    {os : List Od} (hr : RowO g2 cap os W') (hlen : os.length = k) (hgr : W.grownBy W' (some g2)) {G C : Nat} (hrow : RowF G C ys W') (hG : Bo ≤ G) :
    Mine B Bo (L.set i (x.1, os)) (ys.set i (y.1, some ⟨g2, 0, none⟩, k, cap)) (W'.setCell ⟨G, i * 2 + 1, none⟩ (.slice (some ⟨g2, 0, none⟩) k cap)) ∧ RowF G C (ys.set i (y.1, some ⟨g2, 0, none⟩, k, cap)) (W'.setCell ⟨G, i * 2 + 1, none⟩ (.slice (some ⟨g2, 0, none⟩) k cap)) := by
  have hset := hrow.setCell (i := i) (j := 1) (x := y) (y := (y.1, some ⟨g2, 0, none⟩, k, cap)) (u := .slice (some ⟨g2, 0, none⟩) k cap) hy (by decide) rfl
  have hgr2 := setCell_grown W' G (i * 2 + 1) (.slice (some ⟨g2, 0, none⟩) k cap)
  have hk2 : Keeps B [31] W' (W'.setCell ⟨G, i * 2 + 1, none⟩ (.slice (some ⟨g2, 0, none⟩) k cap)) := hrow.keeps (by have := hB.1; omega) (by decide) hgr2
  have hyo : (hv y).ownBlock = some g2 := by rw [hg]; rfl
  have hold : ∀ (j : Nat) (z : Hw), (ys.set i (y.1, some ⟨g2, 0, none⟩, k, cap))[j]? = some z → ∃ z', ys[j]? = some z' ∧ (hv z').ownBlock = (hv z).ownBlock := fun j z hz => by
    by_cases e : i = j
    · subst e
      have hiy : i < ys.length := (List.getElem?_eq_some_iff.1 hy).1
      rw [List.getElem?_set_self hiy] at hz
      obtain rfl := Option.some.inj hz
      exact ⟨y, hy, hyo⟩
    · rw [List.getElem?_set_ne e] at hz
      exact ⟨z, hz, rfl⟩
  refine ⟨⟨by rw [List.length_set, List.length_set, hM.len], fun j u z hu hz => ?_, fun a b u z q hab hu hz hq => ?_⟩, hset⟩
  · by_cases e : i = j
    · subst e
      have hil : i < L.length := (List.getElem?_eq_some_iff.1 hx).1
      have hiy : i < ys.length := (List.getElem?_eq_some_iff.1 hy).1
      rw [List.getElem?_set_self hil] at hu
      rw [List.getElem?_set_self hiy] at hz
      obtain rfl := Option.some.inj hu
      obtain rfl := Option.some.inj hz
      have ho : OwnO B Bo os (.slice (some ⟨g2, 0, none⟩) os.length cap) W' := hr.own hBg hcap
      rw [hlen] at ho
      exact ⟨(hM.own i x y hx hy).1, Own.keep hB ho hk2⟩
    · rw [List.getElem?_set_ne e] at hu hz
      obtain ⟨h1, h2⟩ := hM.own j u z hu hz
      refine ⟨h1, Own.keep hB (ownO_grown h2 hgr fun g hg1 hg2 => ?_) hk2⟩
      obtain rfl : g2 = g := Option.some.inj hg2
      rcases Nat.lt_or_gt_of_ne e with hi | hi
      · exact hM.apart i j y z g2 hi hy hz hyo hg1
      · exact hM.apart j i z y g2 hi hz hy hg1 hyo
  · obtain ⟨u', hu', e1⟩ := hold a u hu
    obtain ⟨z', hz', e2⟩ := hold b z hz
    rw [← e2]
    exact hM.apart a b u' z' q hab hu' hz' (e1.trans hq)
end Go.Proofs.Ytfnmmknbjfmagaa.Le
