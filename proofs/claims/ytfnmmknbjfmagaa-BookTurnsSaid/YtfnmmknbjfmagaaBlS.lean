/- A number is written over a number: what lies in memory still reads as lists of the same lengths. -/
import Derived.Test.YtfnmmknbjfmagaaBlFo
namespace Go.Proofs.Ytfnmmknbjfmagaa.Bk
open Go.RowKit
set_option linter.unusedVariables false
open Go.Proofs.Ytfnmmknbjfmagaa.Rw
open Go.Proofs.Ytfnmmknbjfmagaa.Da
open Go.Proofs.Ytfnmmknbjfmagaa.Le
structure Soft (w w' : World) : Prop where
  size : w'.heap.size = w.heap.size
  ty : ∀ (b : Nat) (cur : Array Value) (t : TypeId), w.heap[b]? = some (Obj.cells cur t (0, 0)) → ∃ cur', w'.heap[b]? = some (Obj.cells cur' t (0, 0))
  int : ∀ (p : Addr) (x : Int), w.cell? p = some (.int .i64 x) → ∃ x', w'.cell? p = some (.int .i64 x')
  oth : ∀ (p : Addr) (a : Option Addr) (n c : Nat), w.cell? p = some (.slice a n c) → w'.cell? p = some (.slice a n c)
theorem soft_set {w : World} {g o : Nat} {x : Int} (y : Int) (hc : w.cell? ⟨g, o, none⟩ = some (.int .i64 x)) : Soft w (w.setCell ⟨g, o, none⟩ (.int .i64 y)) := by
  refine ⟨by simp, fun b cur t h => ?_, fun p z h => ?_, fun p a n c h => ?_⟩
  · by_cases e : b = g
    · subst e
      exact ⟨cur.setIfInBounds o (.int .i64 y), by simp [World.setCell, Array.getElem?_modify, h]⟩
    · exact ⟨cur, (Below.heap_setCell w ⟨g, o, none⟩ _ b e).trans h⟩
  · by_cases e : (⟨g, o, none⟩ : Addr) = p
    · subst e; exact ⟨y, World.cell?_setCell_same w _ _ h⟩
    · exact ⟨z, (World.cell?_setCell_other w _ _ _ e).trans h⟩
  · by_cases e : (⟨g, o, none⟩ : Addr) = p
    · subst e; rw [hc] at h; cases h
    · exact (World.cell?_setCell_other w _ _ _ e).trans h
/-- Elements that are read each for itself make a list (over any base). -/
theorem is_of' {α : Type} [Inhabited α] (e : Enc α) (T : TypeId) (B : Bs) (w : World) (b off len c : Nat) (hb : b < w.heap.size ∧ (b < B.lo ∨ (∃ cur, w.heap[b]? = some (.cells cur T (0, 0))) ∧ ¬ B.ex b)) (good : Nat → α → Prop)
    (h : ∀ i, i < len → ∃ x cs, good i x ∧ e.R B x cs w ∧ ∀ j u, cs[j]? = some u → w.cell? ⟨b, off + i * e.k + j, none⟩ = some u) : ∃ l, Is e T B l (.slice (some ⟨b, off, none⟩) len c) w ∧ l.length = len ∧ ∀ i x, l[i]? = some x → good i x := by
  classical
  have hg : ∀ i, ∃ x, i < len → good i x ∧ ∃ cs, e.R B x cs w ∧ ∀ j u, cs[j]? = some u → w.cell? ⟨b, off + i * e.k + j, none⟩ = some u := fun i => by
    by_cases hi : i < len
    · obtain ⟨x, cs, h1, h2, h3⟩ := h i hi; exact ⟨x, fun _ => ⟨h1, cs, h2, h3⟩⟩
    · exact ⟨default, fun e => absurd e hi⟩
  let f := fun i => Classical.choose (hg i)
  have hf : ∀ i, i < len → good i (f i) ∧ ∃ cs, e.R B (f i) cs w ∧ ∀ j u, cs[j]? = some u → w.cell? ⟨b, off + i * e.k + j, none⟩ = some u := fun i => Classical.choose_spec (hg i)
  have hlen : ((List.range len).map f).length = len := by simp
  have hget : ∀ i x, ((List.range len).map f)[i]? = some x → i < len ∧ f i = x := fun i x hx => by
    have hi : i < len := by
      rcases Nat.lt_or_ge i len with h | h
      · exact h
      · rw [List.getElem?_eq_none (by rw [hlen]; exact h)] at hx; cases hx
    exact ⟨hi, by simpa [hi] using hx⟩
  refine ⟨(List.range len).map f, ⟨_, c, by rw [hlen], .inr ⟨b, off, rfl, hb.1, hb.2, fun i x hx => ?_⟩⟩, hlen, fun i x hx => ?_⟩
  · obtain ⟨hi, rfl⟩ := hget i x hx
    exact (hf i hi).2
  · obtain ⟨hi, rfl⟩ := hget i x hx
    exact (hf i hi).1
theorem ol_soft {B : Bs} {os : List Od} {v : Value} {w w' : World} (hB : B.lo = 0) (h : OL B os v w) (hs : Soft w w') : ∃ os', os'.length = os.length ∧ OL B os' v w' := by
  rcases h.cases with ⟨rfl, a, c, rfl⟩ | ⟨_, b, off, c, rfl, hat⟩
  · obtain ⟨a', c', e, h⟩ := h
    simp only [Value.slice.injEq] at e
    obtain ⟨rfl, _, rfl⟩ := e
    rcases h with ⟨_, h⟩ | ⟨b, off, rfl, h1, h2, _⟩
    · exact ⟨[], rfl, a, c, rfl, .inl ⟨rfl, h⟩⟩
    · exact ⟨[], rfl, _, _, rfl, .inl ⟨rfl, fun e => by cases e⟩⟩
  · have hb : b < w'.heap.size ∧ (b < B.lo ∨ (∃ cur, w'.heap[b]? = some (.cells cur 31 (0, 0))) ∧ ¬ B.ex b) := by
      refine ⟨by rw [hs.size]; exact hat.1, ?_⟩
      rcases hat.2.1 with h | ⟨⟨cur, hc⟩, hx⟩
      · omega
      · exact .inr ⟨hs.ty _ _ _ hc, hx⟩
    obtain ⟨l, h1, h2, _⟩ := is_of' eO 31 B w' b off os.length c hb (fun _ _ => True) fun i hi => by
      obtain ⟨p0, p1, p2, p3, p4⟩ := at5 hat i hi
      obtain ⟨x1, e1⟩ := hs.int _ _ p0
      obtain ⟨x2, e2⟩ := hs.int _ _ p1
      obtain ⟨x3, e3⟩ := hs.int _ _ p2
      obtain ⟨x4, e4⟩ := hs.int _ _ p3
      obtain ⟨x5, e5⟩ := hs.int _ _ p4
      refine ⟨(x1, x2, x3, x4, x5), _, trivial, rfl, fun j u hu => ?_⟩
      match j, hu with
      | 0, hu => obtain rfl := Option.some.inj hu; exact e1
      | 1, hu => obtain rfl := Option.some.inj hu; exact e2
      | 2, hu => obtain rfl := Option.some.inj hu; exact e3
      | 3, hu => obtain rfl := Option.some.inj hu; exact e4
      | 4, hu => obtain rfl := Option.some.inj hu; exact e5
      | j + 5, hu => cases hu
    exact ⟨l, h2, h1⟩
def lens (l : List Lv) : List Nat := l.map fun v => v.2.length
theorem flat_lens : ∀ l : List Lv, (flat l).length = (lens l).sum
  | [] => rfl
  | v :: r => by rw [flat_cons, List.length_append, flat_lens r]; rfl
theorem ll_soft {B : Bs} {l : List Lv} {v : Value} {w w' : World} (hB : B.lo = 0) (h : LL B l v w) (hs : Soft w w') : ∃ l', lens l' = lens l ∧ LL B l' v w' := by
  rcases h.cases with ⟨rfl, a, c, rfl⟩ | ⟨_, b, off, c, rfl, hat⟩
  · obtain ⟨a', c', e, h⟩ := h
    simp only [Value.slice.injEq] at e
    obtain ⟨rfl, _, rfl⟩ := e
    rcases h with ⟨_, h⟩ | ⟨b, off, rfl, h1, h2, _⟩
    · exact ⟨[], rfl, a, c, rfl, .inl ⟨rfl, h⟩⟩
    · exact ⟨[], rfl, _, _, rfl, .inl ⟨rfl, fun e => by cases e⟩⟩
  · have hb : b < w'.heap.size ∧ (b < B.lo ∨ (∃ cur, w'.heap[b]? = some (.cells cur 48 (0, 0))) ∧ ¬ B.ex b) := by
      refine ⟨by rw [hs.size]; exact hat.1, ?_⟩
      rcases hat.2.1 with h | ⟨⟨cur, hc⟩, hx⟩
      · omega
      · exact .inr ⟨hs.ty _ _ _ hc, hx⟩
    obtain ⟨l', h1, h2, h3⟩ := is_of' eL 48 B w' b off l.length c hb (fun i x => (l[i]?.map fun v : Lv => v.2.length) = some x.2.length) fun i hi => by
      obtain ⟨x, p0, p1, hx⟩ := atL hat i hi
      obtain ⟨x1, e1⟩ := hs.int _ _ p0
      obtain ⟨os', k1, k2⟩ := ol_soft hB hx hs
      obtain ⟨a, c', ex⟩ := hx.len
      subst ex
      have e2 := hs.oth _ _ _ _ p1
      refine ⟨(x1, os'), _, ?_, eL_mk k2, fun j u hu => ?_⟩
      · rw [List.getElem?_eq_getElem hi]
        exact congrArg some k1.symm
      · match j, hu with
        | 0, hu => obtain rfl := Option.some.inj hu; exact e1
        | 1, hu => obtain rfl := Option.some.inj hu; exact e2
        | j + 2, hu => cases hu
    refine ⟨l', ?_, h1⟩
    apply List.ext_getElem?
    intro i
    unfold lens
    rw [List.getElem?_map, List.getElem?_map]
    rcases Nat.lt_or_ge i l'.length with hi | hi
    · rw [h3 i _ (List.getElem?_eq_getElem hi), List.getElem?_eq_getElem hi]
      try rfl
    · rw [List.getElem?_eq_none hi, List.getElem?_eq_none (by omega)]
      try rfl
/-- Books of one shape. -/
def Shape (b b' : Bk) : Prop := lens b'.1 = lens b.1 ∧ lens b'.2.1 = lens b.2.1 ∧ b'.2.2 = b.2.2
theorem Shape.small {b b' : Bk} (h : Shape b b') (k : Small b) : Small b' := by
  have l1 := congrArg List.length h.1
  have l2 := congrArg List.length h.2.1
  unfold lens at l1 l2
  simp only [List.length_map] at l1 l2
  have f1 := flat_lens b'.1
  have f2 := flat_lens b'.2.1
  rw [h.1, ← flat_lens] at f1
  rw [h.2.1, ← flat_lens] at f2
  obtain ⟨k1, k2, k3, k4⟩ := k
  exact ⟨by omega, by omega, by omega, by omega⟩
theorem Bx.soft {B : Bs} {b : Bk} {p : Nat} {cs : Array Value} {w w' : World} (hB : B.lo = 0) (h : Bx B b p cs w) (hs : Soft w w') (hp : w'.heap[p]? = w.heap[p]?) : ∃ b', Shape b b' ∧ Bx B b' p cs w' := by
  obtain ⟨x, y, e, h1, h2⟩ := h.bl
  obtain ⟨l1, k1, j1⟩ := ll_soft hB h1 hs
  obtain ⟨l2, k2, j2⟩ := ll_soft hB h2 hs
  exact ⟨(l1, l2, b.2.2), ⟨k1, k2, rfl⟩, hp.trans h.bk, ⟨x, y, e, j1, j2⟩, h.lo⟩
/-- The first order of the first level, where it lies. -/
structure First (B : Bs) (g off g2 off2 : Nat) (a2c : Nat × Nat) (w : World) : Prop where
  lv : ∃ cur, w.heap[g]? = some (.cells cur 48 (0, 0))
  nx1 : ¬ B.ex g
  od : ∃ cur, w.heap[g2]? = some (.cells cur 31 (0, 0))
  nx2 : ¬ B.ex g2
  c0 : ∃ x, w.cell? ⟨g, off, none⟩ = some (.int .i64 x)
  c1 : w.cell? ⟨g, off + 1, none⟩ = some (.slice (some ⟨g2, off2, none⟩) a2c.1 a2c.2)
  pos : 0 < a2c.1
  o0 : ∃ x, w.cell? ⟨g2, off2, none⟩ = some (.int .i64 x)
  o3 : ∃ x, w.cell? ⟨g2, off2 + 3, none⟩ = some (.int .i64 x)
theorem first_of {B : Bs} {l : List Lv} {a : Option Addr} {n c : Nat} {w : World} (hB : B.lo = 0) (h : LL B l (.slice a n c) w) (hn : 0 < n) (hf : ∀ k r, lens l = k :: r → 0 < k) : ∃ g off g2 off2 a2c, a = some ⟨g, off, none⟩ ∧ First B g off g2 off2 a2c w := by
  rcases h.cases with ⟨rfl, a', c', e⟩ | ⟨_, g, off, c', e, hat⟩
  · simp only [Value.slice.injEq] at e
    have := e.2.1
    try simp at this
    omega
  simp only [Value.slice.injEq] at e
  obtain ⟨rfl, hnl, rfl⟩ := e
  have hl : 0 < l.length := by omega
  obtain ⟨x, p0, p1, hx⟩ := atL hat 0 hl
  have hk : 0 < (l[0]'hl).2.length := by
    cases l with
    | nil => cases hl
    | cons v r => exact hf _ _ rfl
  rcases hx.cases with ⟨e, _⟩ | ⟨_, g2, off2, c2, rfl, hat2⟩
  · rw [e] at hk; cases hk
  obtain ⟨o0, _, _, o3, _⟩ := at5 hat2 0 hk
  have t1 : (∃ cur, w.heap[g]? = some (.cells cur 48 (0, 0))) ∧ ¬ B.ex g := by
    rcases hat.2.1 with h | h
    · omega
    · exact h
  have t2 : (∃ cur, w.heap[g2]? = some (.cells cur 31 (0, 0))) ∧ ¬ B.ex g2 := by
    rcases hat2.2.1 with h | h
    · omega
    · exact h
  simp only [Nat.zero_mul, Nat.add_zero] at p0 p1 o0 o3
  exact ⟨g, off, g2, off2, (_, c2), rfl, t1.1, t1.2, t2.1, t2.2, ⟨_, p0⟩, p1, hk, ⟨_, o0⟩, ⟨_, o3⟩⟩
end Go.Proofs.Ytfnmmknbjfmagaa.Bk
