/- Rows of flat elements (a list that lies in one block, each element in k cells of its own): stored into, cut, cleared, copied. Of no program. -/
import Derived.Test.YtmaecknjamnnpaaAp
import Derived.Laws.CopyOwn
import Derived.Laws.MakeOwn
import Derived.Lib.SliceRun
import Derived.Sort.Row
namespace Go.Proofs.Ytmaecknjamnnpaa.Ro
open Go.RowKit
set_option linter.unusedVariables false
open Go.Proofs.Ytmaecknjamnnpaa.Rw (nx)
open Go.Proofs.Ytmaecknjamnnpaa.Da
/-- How a kind of data lies in k cells. -/
structure Flat (α : Type) where
  k : Nat
  f : α → List Value
  len : ∀ x, (f x).length = k
  one : ∀ x, ∀ u ∈ f x, u.oneCell' = true
def Flat.enc {α : Type} (e : Flat α) : Enc α := Enc.flat e.k e.f e.len e.one
section
variable {α : Type} {e : Flat α} {T : TypeId}
/-- The first cells of cur are the elements xs. -/
def Says (e : Flat α) (xs : List α) (cur : List Value) : Prop := ∀ i x, xs[i]? = some x → ∀ j u, (e.f x)[j]? = some u → cur[i * e.k + j]? = some u
/-- Block g is a row that may be written, with room for cap elements; its first ones are xs. -/
structure Row (e : Flat α) (T : TypeId) (g cap : Nat) (xs : List α) (w : World) : Prop where
  ex : ∃ cur : List Value, w.heap[g]? = some (.cells cur.toArray T (0, 0)) ∧ cur.length = cap * e.k ∧ Says e xs cur
  le : xs.length ≤ cap
theorem Row.lt {g cap : Nat} {xs : List α} {w : World} (h : Row e T g cap xs w) : g < w.heap.size := by
  obtain ⟨cur, hg, _⟩ := h.ex; exact (Array.getElem?_eq_some_iff.1 hg).1
theorem Row.block {g cap : Nat} {xs : List α} {w w' : World} (h : Row e T g cap xs w) (hb : w'.heap[g]? = w.heap[g]?) : Row e T g cap xs w' := by
  obtain ⟨cur, hg, h1⟩ := h.ex; exact ⟨⟨cur, hb.trans hg, h1⟩, h.le⟩
theorem Row.stays {g cap : Nat} {xs : List α} {w w' : World} (h : Row e T g cap xs w) (hb : Below w.heap.size w w') : Row e T g cap xs w' := h.block (hb.block g h.lt)
theorem Row.cell {g cap : Nat} {xs : List α} {w : World} (h : Row e T g cap xs w) {i : Nat} {x : α} (hx : xs[i]? = some x) {j : Nat} {u : Value} (hu : (e.f x)[j]? = some u) : w.cell? ⟨g, i * e.k + j, none⟩ = some u := by
  obtain ⟨cur, hg, _, h1⟩ := h.ex
  simp only [World.cell?, hg]
  simpa using h1 i x hx j u hu
theorem Row.frozen {g cap : Nat} {xs : List α} {w : World} (h : Row e T g cap xs w) (o : Nat) : w.frozen? ⟨g, o, none⟩ = false := by
  obtain ⟨cur, hg, _⟩ := h.ex
  simp [World.frozen?, hg]
theorem Row.take {g cap : Nat} {xs : List α} {w : World} (h : Row e T g cap xs w) (n : Nat) : Row e T g cap (xs.take n) w := by
  obtain ⟨cur, hg, hl, h1⟩ := h.ex
  refine ⟨⟨cur, hg, hl, fun i x hx => h1 i x ?_⟩, by have := h.le; rw [List.length_take]; omega⟩
  rw [List.getElem?_take] at hx
  split at hx
  · exact hx
  · cases hx
theorem says_ext {xs : List α} {cur : List Value} (h : Says e xs cur) (hl : xs.length * e.k ≤ cur.length) : cur.take (xs.length * e.k) = (xs.map e.f).flatten := by
  have hk : ∀ cs ∈ xs.map e.f, cs.length = e.k := fun cs hcs => by obtain ⟨x, _, rfl⟩ := List.mem_map.1 hcs; exact e.len x
  have hlen : (xs.map e.f).flatten.length = xs.length * e.k := by rw [flat_len hk, List.length_map]
  apply List.ext_getElem?
  intro j
  by_cases hj : j < xs.length * e.k
  · rw [List.getElem?_take, if_pos hj]
    obtain ⟨u, h2⟩ : ∃ u, (xs.map e.f).flatten[j]? = some u := ⟨_, List.getElem?_eq_getElem (by omega)⟩
    obtain ⟨i, cs, j', h3, h4, h5⟩ := flat_inv hk j u h2
    rw [h2, h5]
    rw [List.getElem?_map] at h3
    obtain ⟨x, hx, rfl⟩ := Option.map_eq_some_iff.1 h3
    exact h i x hx j' u h4
  · rw [List.getElem?_eq_none (by rw [List.length_take]; omega), List.getElem?_eq_none (by omega)]
theorem Row.owns {g cap : Nat} {xs : List α} {w : World} {Bo : Nat} (h : Row e T g cap xs w) (hB : Bo ≤ g) (hc : cap ≤ maxLen) : w.ownsRow Bo T e.k (.slice (some ⟨g, 0, none⟩) xs.length cap) xs.length (xs.map e.f).flatten := by
  obtain ⟨cur, hg, hl, h1⟩ := h.ex
  have hk : ∀ cs ∈ xs.map e.f, cs.length = e.k := fun cs hcs => by obtain ⟨x, _, rfl⟩ := List.mem_map.1 hcs; exact e.len x
  refine ⟨by rw [flat_len hk, List.length_map], .inr ⟨g, cap, cur.toArray, rfl, hB, hg, h.le, hc, by simpa using hl, ?_⟩⟩
  exact says_ext h1 (by rw [hl]; exact Nat.mul_le_mul_right _ h.le)
theorem Row.own {g cap : Nat} {xs : List α} {w : World} {B : Bs} {Bo : Nat} (h : Row e T g cap xs w) (hB : Bo ≤ g) (hc : cap ≤ maxLen) : Own e.enc T B Bo xs (.slice (some ⟨g, 0, none⟩) xs.length cap) w :=
  ⟨xs.map e.f, by simp, fun i x cs hx hcs => by
    rw [List.getElem?_map, hx] at hcs
    exact (Option.some.inj hcs).symm, h.owns hB hc⟩
/-- A list of the call's own is nil, or lies in a row. -/
theorem Row.ofOwn {B : Bs} {Bo : Nat} {xs : List α} {v : Value} {w : World} (h : Own e.enc T B Bo xs v w) : (v = .slice none 0 0 ∧ xs = []) ∨ ∃ g cap, v = .slice (some ⟨g, 0, none⟩) xs.length cap ∧ Bo ≤ g ∧ cap ≤ maxLen ∧ Row e T g cap xs w := by
  obtain ⟨css, hl, hc, hr⟩ := h
  rcases hr.2 with ⟨rfl, h1⟩ | ⟨g, cap, cur, rfl, hbo, hg, hn, hm, hs, ht⟩
  · exact .inl ⟨rfl, List.eq_nil_of_length_eq_zero h1⟩
  · refine .inr ⟨g, cap, rfl, hbo, hm, ⟨⟨cur.toList, by simpa using hg, by rw [Array.length_toList]; exact hs, fun i x hx j u hu => ?_⟩, hn⟩⟩
    have hi : i < xs.length := (List.getElem?_eq_some_iff.1 hx).1
    have hci := List.getElem?_eq_getElem (show i < css.length by omega)
    have he : css[i] = e.f x := hc i x _ hx hci
    rw [he] at hci
    have hf := flat_at (Own.lens hl hc) i _ hci j u hu
    rw [← ht] at hf
    have hlt : i * e.k + j < xs.length * e.k := by
      rcases Nat.lt_or_ge (i * e.k + j) (xs.length * e.k) with h | h
      · exact h
      · rw [List.getElem?_take, if_neg (by show ¬ i * e.k + j < xs.length * e.k; omega)] at hf; cases hf
    rw [List.getElem?_take, if_pos (by exact hlt)] at hf
    exact hf
/-- 'make([]T, n)'. -/
theorem Row.made {w : World} {n : Nat} {z : Array Value} (x0 : α) (hz : z.toList = e.f x0) (hk : 0 < e.k) : Row e T w.heap.size n (List.replicate n x0) (w.alloc (.cells (madeCells z (n * e.k)) T)) := by
  have hzs : z.size = e.k := by rw [← e.len x0, ← hz]; simp
  refine ⟨⟨(madeCells z (n * e.k)).toList, by simpa using heap_alloc_new w _, by simp [size_madeCells], fun i x hx j u hu => ?_⟩, by simp⟩
  rw [List.getElem?_replicate] at hx
  split at hx
  · rename_i hi
    obtain rfl := Option.some.inj hx
    have hj : j < e.k := by
      rcases Nat.lt_or_ge j e.k with h | h
      · exact h
      · rw [List.getElem?_eq_none (by rw [e.len]; exact h)] at hu; cases hu
    have hlt : i * e.k + j < n * e.k := by
      have : (i + 1) * e.k ≤ n * e.k := Nat.mul_le_mul_right _ hi
      rw [Nat.add_mul, Nat.one_mul] at this; omega
    have hm : (i * e.k + j) % e.k = j := by rw [Nat.mul_comm, Nat.mul_add_mod]; exact Nat.mod_eq_of_lt hj
    rw [Array.getElem?_toList]
    simp only [madeCells, Array.getElem?_map, Array.getElem?_range, hlt, if_true, Option.map_some, hzs, hm]
    rw [← hz] at hu
    rw [Array.getElem?_toList] at hu
    rw [getElem!_pos z j (by omega)]
    rw [Array.getElem?_eq_getElem (by omega)] at hu
    exact hu
  · cases hx
theorem splice_get {L cs : List Value} {off : Nat} (h : off + cs.length ≤ L.length) (m : Nat) : (splice L off cs)[m]? = if m < off then L[m]? else if m < off + cs.length then cs[m - off]? else L[m]? := by
  unfold splice
  by_cases h1 : m < off
  · rw [if_pos h1, List.getElem?_append_left (by rw [List.length_take]; omega), List.getElem?_take, if_pos h1]
  · rw [if_neg h1, List.getElem?_append_right (by rw [List.length_take]; omega), List.length_take, Nat.min_eq_left (by omega)]
    by_cases h2 : m < off + cs.length
    · rw [if_pos h2, List.getElem?_append_left (by omega)]
    · rw [if_neg h2, List.getElem?_append_right (by omega), List.getElem?_drop]
      congr 1; omega
theorem setRow_grown (w : World) (g : Nat) (c : Array Value) : w.grownBy (w.setRow g c) (some g) :=
  ⟨rfl, rfl, rfl, by simp [World.setRow], fun i hi hne => setRow_other w g i c (fun e => hne (by rw [e]))⟩
theorem mul_apart {i j a b k : Nat} (ha : a < k) (hb : b < k) (h : i * k + a = j * k + b) : i = j ∧ a = b := by
  have h1 : (i * k + a) / k = i := by rw [Nat.mul_comm, Nat.mul_add_div (by omega), Nat.div_eq_of_lt ha]; rfl
  have h2 : (j * k + b) / k = j := by rw [Nat.mul_comm, Nat.mul_add_div (by omega), Nat.div_eq_of_lt hb]; rfl
  have : i = j := by rw [← h1, ← h2, h]
  subst this
  exact ⟨rfl, by omega⟩
theorem get_lt {x : α} {j : Nat} {u : Value} (h : (e.f x)[j]? = some u) : j < e.k := by
  rcases Nat.lt_or_ge j e.k with h' | h'
  · exact h'
  · rw [List.getElem?_eq_none (by rw [e.len]; exact h')] at h; cases h
/-- A store into one cell of an element. -/
theorem Row.setCell {g cap : Nat} {xs : List α} {w : World} (h : Row e T g cap xs w) {i j : Nat} {x y : α} {u : Value} (hx : xs[i]? = some x) (hj : j < e.k) (hy : e.f y = (e.f x).set j u) : Row e T g cap (xs.set i y) (w.setCell ⟨g, i * e.k + j, none⟩ u) := by
  obtain ⟨cur, hg, hl, h1⟩ := h.ex
  have hi : i < xs.length := (List.getElem?_eq_some_iff.1 hx).1
  refine ⟨⟨cur.set (i * e.k + j) u, ?_, by rw [List.length_set, hl], fun i' x' hx' j' u' hu' => ?_⟩, by rw [List.length_set]; exact h.le⟩
  · rw [Go.Sort.setCell_eq]
    simp only [Go.Sort.mapBlock, Array.getElem?_modify, if_true, hg, Option.map_some, Go.Sort.onCells]
    simp
  · have hj' := get_lt hu'
    rw [List.getElem?_set]
    by_cases e1 : i * e.k + j = i' * e.k + j'
    · obtain ⟨rfl, rfl⟩ := mul_apart hj hj' e1
      rw [List.getElem?_set_self hi] at hx'
      obtain rfl := Option.some.inj hx'
      rw [hy, List.getElem?_set_self (by rw [e.len]; exact hj)] at hu'
      have hlt : i * e.k + j < cur.length := by
        rw [hl]
        have : (i + 1) * e.k ≤ cap * e.k := Nat.mul_le_mul_right _ (by have := h.le; omega)
        rw [Nat.add_mul, Nat.one_mul] at this; omega
      rw [if_pos rfl, if_pos hlt, hu']
    · rw [if_neg e1]
      by_cases e2 : i = i'
      · subst e2
        rw [List.getElem?_set_self hi] at hx'
        obtain rfl := Option.some.inj hx'
        rw [hy, List.getElem?_set_ne (by intro e3; exact e1 (by rw [e3]))] at hu'
        exact h1 i x hx j' u' hu'
      · rw [List.getElem?_set_ne e2] at hx'
        exact h1 i' x' hx' j' u' hu'
/-- The elements ys laid over a row from place i on. -/
theorem Row.splice {g cap : Nat} {xs ys : List α} {w : World} {cur cs : List Value} (hg : w.heap[g]? = some (.cells cur.toArray T (0, 0))) (hl : cur.length = cap * e.k) (hs : Says e xs cur) {i : Nat} (hi : i ≤ xs.length) (hle : i + ys.length ≤ cap) (hx : xs.length ≤ cap)
    (hcl : cs.length = ys.length * e.k) (hc : Says e ys cs) : Row e T g cap (xs.take i ++ ys ++ xs.drop (i + ys.length)) (w.setRow g (Go.splice cur (i * e.k) cs).toArray) := by
  have hfit : i * e.k + cs.length ≤ cur.length := by rw [hcl, hl, ← Nat.add_mul]; exact Nat.mul_le_mul_right _ hle
  refine ⟨⟨_, setRow_heap w g _ _ T (0, 0) hg, by rw [length_splice _ _ _ hfit, hl], fun m x hx' j u hu => ?_⟩, by simp only [List.length_append, List.length_take, List.length_drop]; omega⟩
  have hj := get_lt hu
  rw [splice_get hfit]
  by_cases h1 : m < i
  · rw [List.append_assoc, List.getElem?_append_left (by rw [List.length_take]; omega), List.getElem?_take, if_pos h1] at hx'
    have hlt : m * e.k + j < i * e.k := by
      have : (m + 1) * e.k ≤ i * e.k := Nat.mul_le_mul_right _ h1
      rw [Nat.add_mul, Nat.one_mul] at this; omega
    rw [if_pos hlt]
    exact hs m x hx' j u hu
  · have hge : i * e.k ≤ m * e.k := Nat.mul_le_mul_right _ (by omega)
    rw [if_neg (by omega)]
    rw [List.append_assoc, List.getElem?_append_right (by rw [List.length_take]; omega), List.length_take, Nat.min_eq_left hi] at hx'
    by_cases h2 : m < i + ys.length
    · rw [List.getElem?_append_left (by omega)] at hx'
      have hlt : m * e.k + j < i * e.k + cs.length := by
        rw [hcl, ← Nat.add_mul]
        have : (m + 1) * e.k ≤ (i + ys.length) * e.k := Nat.mul_le_mul_right _ h2
        rw [Nat.add_mul m, Nat.one_mul] at this; omega
      rw [if_pos hlt]
      have e1 : m * e.k + j - i * e.k = (m - i) * e.k + j := by rw [Nat.sub_mul]; omega
      rw [e1]
      exact hc (m - i) x hx' j u hu
    · have hge2 : i * e.k + cs.length ≤ m * e.k := by rw [hcl, ← Nat.add_mul]; exact Nat.mul_le_mul_right _ (by omega)
      rw [if_neg (by omega)]
      rw [List.getElem?_append_right (by omega), List.getElem?_drop] at hx'
      have e1 : i + ys.length + (m - i - ys.length) = m := by omega
      rw [e1] at hx'
      exact hs m x hx' j u hu
/-- The cells of elements, as they are read one by one. -/
theorem says_flat (ys : List α) : Says e ys (ys.map e.f).flatten := by
  have hk : ∀ cs ∈ ys.map e.f, cs.length = e.k := fun cs hcs => by obtain ⟨x, _, rfl⟩ := List.mem_map.1 hcs; exact e.len x
  intro i x hx j u hu
  exact flat_at hk i (e.f x) (by rw [List.getElem?_map, hx]; rfl) j u hu
theorem flat_length (ys : List α) : (ys.map e.f).flatten.length = ys.length * e.k := by
  have hk : ∀ cs ∈ ys.map e.f, cs.length = e.k := fun cs hcs => by obtain ⟨x, _, rfl⟩ := List.mem_map.1 hcs; exact e.len x
  rw [flat_len hk, List.length_map]
theorem flat_one (ys : List α) : ∀ u ∈ (ys.map e.f).flatten, u.oneCell' = true := by
  intro u hu
  obtain ⟨cs, hcs, hu2⟩ := List.mem_flatten.1 hu
  obtain ⟨x, _, rfl⟩ := List.mem_map.1 hcs
  exact e.one x u hu2
/-- The cells of the elements from place i on. -/
theorem Row.cells {g cap : Nat} {xs : List α} {w : World} (h : Row e T g cap xs w) (i : Nat) : ∀ j u, ((xs.drop i).map e.f).flatten[j]? = some u → w.cell? ((⟨g, i * e.k, none⟩ : Addr).add j) = some u := by
  have hk : ∀ cs ∈ (xs.drop i).map e.f, cs.length = e.k := fun cs hcs => by obtain ⟨x, _, rfl⟩ := List.mem_map.1 hcs; exact e.len x
  intro j u hu
  obtain ⟨m, cs, j', h1, h2, rfl⟩ := flat_inv hk j u hu
  rw [List.getElem?_map] at h1
  obtain ⟨x, hx, rfl⟩ := Option.map_eq_some_iff.1 h1
  rw [List.getElem?_drop] at hx
  rw [add_eq, ← Nat.add_assoc, ← Nat.add_mul]
  exact h.cell hx h2
/-- An append in place, to the first n elements, of the elements ys. -/
theorem Row.append {P : Program} {t : TypeId} {bytes : Nat} (E : Elem P t T e.k bytes) (ty : TypeId) {g cap : Nat} {xs ys : List α} {w : World} (h : Row e T g cap xs w) {n : Nat} (hn : n ≤ xs.length) (hle : n + ys.length ≤ cap) (ad : Addr) (c : Nat)
    (hc : ∀ j u, (ys.map e.f).flatten[j]? = some u → w.cell? (ad.add j) = some u) :
    ∃ w', appRun P t ty (.slice (some ⟨g, 0, none⟩) n cap) (.slice (some ad) ys.length c) w = .ok (.slice (some ⟨g, 0, none⟩) (n + ys.length) cap) w' ∧ Row e T g cap (xs.take n ++ ys ++ xs.drop (n + ys.length)) w' ∧ w.grownBy w' (some g) := by
  obtain ⟨i, z, hi, hz, hs, hb, hzs⟩ := E.ex
  obtain ⟨cur, hg, hl, h1⟩ := h.ex
  have hfit : n * e.k + ((ys.map e.f).flatten).length ≤ cur.length := by rw [flat_length, hl, ← Nat.add_mul]; exact Nat.mul_le_mul_right _ hle
  have hr := run_append_room (P := P) w t ty T i E.ht hi g n cap cur.toArray hg ad ys.length c _ (by rw [flat_length, hs]) hc (flat_one ys) hle (by rw [hs]; simpa using hfit)
  rw [hs] at hr
  refine ⟨_, hr, ?_, setRow_grown _ _ _⟩
  have := Row.splice hg hl h1 hn hle h.le (flat_length ys) (says_flat ys)
  unfold Go.splice at this
  rw [← List.append_assoc] at this
  exact this
/-- What 'clear(v)' and 'copy(v, x)' come to: a walk does not look behind the names. -/
def clearRun (P : Program) (t ty : TypeId) (v : Value) (w : World) : Result Value := (Builtin.clear_ #[t] ty #[v]).run P w
def copyRun (P : Program) (t u ty : TypeId) (v x : Value) (w : World) : Result Value := (Builtin.copy_ #[t, u] ty #[v, x]).run P w
section
variable {P : Program} (ρ : Operand → Value) (dst : Option Tmp) (ty : TypeId) (pos : String) (after : Array Edge) (guard : Option (Nat × Bool)) (w : World)
theorem exec_clear (s : Operand) (t : TypeId) :
    (execOp ρ { dst, op := .call { callee := .builtin .clear, args := #[s], argTypes := #[t] }, type := ty, pos, after, guard }).run P w = (clearRun P t ty (ρ s) w).andThen fun v w' => .ok (.value v) w' := by
  unfold execOp clearRun
  simp only [resolve, invoke, builtin, Sem.run_bind, Sem.run_pure, List.map_toArray, List.map_cons, List.map_nil, Result.andThen_ok]
theorem exec_copy (s x : Operand) (t u : TypeId) :
    (execOp ρ { dst, op := .call { callee := .builtin .copy, args := #[s, x], argTypes := #[t, u] }, type := ty, pos, after, guard }).run P w = (copyRun P t u ty (ρ s) (ρ x) w).andThen fun v w' => .ok (.value v) w' := by
  unfold execOp copyRun
  simp only [resolve, invoke, builtin, Sem.run_bind, Sem.run_pure, List.map_toArray, List.map_cons, List.map_nil, Result.andThen_ok]
end
attribute [go_sem ↓] exec_clear exec_copy
theorem zeroCells_says {z : Array Value} {x0 : α} (hz : z.toList = e.f x0) (m : Nat) : (Builtin.zeroCells z m).toList = ((List.replicate m x0).map e.f).flatten := by
  have hzs : z.size = e.k := by rw [← e.len x0, ← hz]; simp
  have hL : (Builtin.zeroCells z m).toList.length = m * e.k := by simp [Builtin.zeroCells, hzs]
  apply List.ext_getElem?
  intro j
  by_cases hj : j < m * e.k
  · have h2 : ((List.replicate m x0).map e.f).flatten[j]? = some (((List.replicate m x0).map e.f).flatten[j]'(by rw [flat_length, List.length_replicate]; exact hj)) := List.getElem?_eq_getElem _
    have hk : ∀ cs ∈ (List.replicate m x0).map e.f, cs.length = e.k := fun cs hcs => by obtain ⟨x, _, rfl⟩ := List.mem_map.1 hcs; exact e.len x
    obtain ⟨i, cs, j', h3, h4, h5⟩ := flat_inv hk j _ h2
    rw [h2]
    rw [List.getElem?_map, List.getElem?_replicate] at h3
    split at h3
    · simp only [Option.map_some, Option.some.injEq] at h3
      subst h3
      rw [← h4]
      have hj' := get_lt h4
      have hm : j % e.k = j' := by rw [h5, Nat.mul_comm, Nat.mul_add_mod]; exact Nat.mod_eq_of_lt hj'
      rw [Array.getElem?_toList, ← hz, Array.getElem?_toList]
      simp only [Builtin.zeroCells, Array.getElem?_map, Array.getElem?_range, hzs, hj, if_true, Option.map_some, hm]
      rw [getElem!_pos z j' (by omega), Array.getElem?_eq_getElem (by omega)]
    · simp at h3
  · rw [List.getElem?_eq_none (by omega), List.getElem?_eq_none (by rw [flat_length, List.length_replicate]; omega)]
/-- 'clear' of elements behind the first ones. -/
theorem Row.clear {P : Program} {t : TypeId} {bytes : Nat} (E : Elem P t T e.k bytes) (ty : TypeId) {z : Value} (hz : ∀ w, (zeroValue T).run P w = .ok z w) {x0 : α} (hx0 : z.cells.toList = e.f x0) {g cap : Nat} {xs : List α} {w : World} (h : Row e T g cap xs w) {o m c : Nat} (ho : xs.length ≤ o) (hm : 0 < m) (hle : o + m ≤ cap) :
    ∃ w', clearRun P t ty (.slice (some ⟨g, o * e.k, none⟩) m c) w = .ok (.tuple #[]) w' ∧ Row e T g cap xs w' ∧ w.grownBy w' (some g) := by
  obtain ⟨cur, hg, hl, h1⟩ := h.ex
  have hfl : ((List.replicate m x0).map e.f).flatten.length = m * e.k := by rw [flat_length, List.length_replicate]
  have hfit : o * e.k + ((List.replicate m x0).map e.f).flatten.length ≤ cur.length := by rw [hfl, hl, ← Nat.add_mul]; exact Nat.mul_le_mul_right _ hle
  have hst := run_storeCells_at P g (o * e.k) T ((List.replicate m x0).map e.f).flatten 0 cur.toArray w hg (by simpa using hfit) (flat_one _)
  have hzc := zeroCells_says (e := e) hx0 m
  obtain ⟨m', rfl⟩ : ∃ m', m = m' + 1 := ⟨m - 1, by omega⟩
  refine ⟨_, ?_, ?_, setRow_grown w g (Go.splice cur (o * e.k) ((List.replicate (m' + 1) x0).map e.f).flatten).toArray⟩
  · unfold clearRun
    simp only [Nat.add_zero] at hst
    clear hfl hfit
    generalize ((List.replicate (m' + 1) x0).map e.f).flatten = F at hst hzc ⊢
    simp [Builtin.clear_, run_underlying E.ht, hz, hzc, hst, Go.splice]
  · refine ⟨⟨_, setRow_heap w g _ _ T (0, 0) hg, by rw [length_splice _ _ _ hfit, hl], fun i x hx j u hu => ?_⟩, h.le⟩
    have hj := get_lt hu
    have hi : i < xs.length := (List.getElem?_eq_some_iff.1 hx).1
    have hlt : i * e.k + j < o * e.k := by
      have : (i + 1) * e.k ≤ o * e.k := Nat.mul_le_mul_right _ (by omega)
      rw [Nat.add_mul, Nat.one_mul] at this; omega
    rw [splice_get hfit, if_pos hlt]
    exact h1 i x hx j u hu
/-- 'copy' into a row from its place o on. -/
theorem Row.copy {P : Program} {t u : TypeId} {bytes : Nat} (E : Elem P t T e.k bytes) (ty : TypeId) {g cap : Nat} {xs ys : List α} {w : World} (h : Row e T g cap xs w) {o dl dc : Nat} (ho : o ≤ xs.length) (hd : ys.length ≤ dl) (hle : o + ys.length ≤ cap) (ad : Addr) (c : Nat)
    (hc : ∀ j u, (ys.map e.f).flatten[j]? = some u → w.cell? (ad.add j) = some u) :
    ∃ w', copyRun P t u ty (.slice (some ⟨g, o * e.k, none⟩) dl dc) (.slice (some ad) ys.length c) w = .ok (.int .i64 (ys.length : Nat)) w' ∧ Row e T g cap (xs.take o ++ ys ++ xs.drop (o + ys.length)) w' ∧ w.grownBy w' (some g) := by
  obtain ⟨i, z, hi, hz, hs, hb, hzs⟩ := E.ex
  obtain ⟨cur, hg, hl, h1⟩ := h.ex
  have hfit : o * e.k + ((ys.map e.f).flatten).length ≤ cur.length := by rw [flat_length, hl, ← Nat.add_mul]; exact Nat.mul_le_mul_right _ hle
  have hst := run_storeCells_at P g (o * e.k) T (ys.map e.f).flatten 0 cur.toArray w hg (by simpa using hfit) (flat_one _)
  have hsp := Row.splice hg hl h1 ho hle h.le (flat_length ys) (says_flat ys)
  have hlen := flat_length (e := e) ys
  have hfc := run_firstCells_some (P := P) w i.size ys.length ad ys.length c (ys.map e.f).flatten (by rw [hlen, hs]) hc
  refine ⟨_, ?_, hsp, setRow_grown _ _ _⟩
  have hmin : Nat.min ys.length dl = ys.length := Nat.min_eq_left hd
  simp only [Nat.add_zero] at hst
  clear hsp hc hfit hlen
  generalize (ys.map e.f).flatten = F at hst hfc ⊢
  unfold copyRun
  simp [Builtin.copy_, run_underlying E.ht, Builtin.lenOf, sizeOf, typeInfo, hi, hmin, hfc, hst, Go.splice, goInt]
/-- What 'append(v, make([]T, n)...)' comes to. -/
def appzRun (P : Program) (t u ty : TypeId) (v x : Value) (w : World) : Result Value := (Builtin.append_ #[t, u] ty #[v, x]).run P w
section
variable {P : Program} (ρ : Operand → Value) (dst : Option Tmp) (ty : TypeId) (pos : String) (after : Array Edge) (guard : Option (Nat × Bool)) (w : World)
theorem exec_appz (s x : Operand) (t u : TypeId) (hne : (t == u) = false) :
    (execOp ρ { dst, op := .call { callee := .builtin .append, args := #[s, x], argTypes := #[t, u] }, type := ty, pos, after, guard }).run P w = (appzRun P t u ty (ρ s) (ρ x) w).andThen fun v w' => .ok (.value v) w' := by
  unfold execOp appzRun
  simp only [resolve, invoke, builtin, Sem.run_bind, Sem.run_pure, List.map_toArray, List.map_cons, List.map_nil, Result.andThen_ok]
end
attribute [go_sem ↓] exec_appz
/-- An append of m zero elements to the first n of a row that has no room for them. -/
theorem Row.growz {P : Program} {t u : TypeId} {bytes : Nat} {ik : IntKind} (E : Elem P t T e.k bytes) (hu : P.underlying u = some (.int ik)) (ty : TypeId) {z : Array Value} (hzv : ∀ w, (zeroValue T).run P w = .ok (.agg z) w) {x0 : α} (hx0 : z.toList = e.f x0) {g cap : Nat} {xs : List α} {w : World} (h : Row e T g cap xs w) {n m : Nat} (hn : n ≤ xs.length) (hg : cap < n + m) (h6 : n + m ≤ 1000000000) (hby : bytes ≤ 100000) :
    ∃ c' w', appzRun P t u ty (.slice (some ⟨g, 0, none⟩) n cap) (.int .i64 (m : Nat)) w = .ok (.slice (some ⟨w.heap.size, 0, none⟩) (n + m) c') w' ∧ Row e T w.heap.size c' (xs.take n ++ List.replicate m x0) w' ∧ Below w.heap.size w w' ∧ c' ≤ maxLen := by
  obtain ⟨i, z', hi, hz', hs, hb, hzs⟩ := E.ex
  have hzz : z' = .agg z := by
    have := hzv w
    simpa [zeroValue, typeInfo, hi, hz'] using this
  subst hzz
  subst hb
  have hbytes : (n + m) * i.bytes ≤ 140737488355328 := Nat.le_trans (Nat.mul_le_mul h6 hby) (by decide)
  have hmb : m * i.bytes ≤ 140737488355328 := Nat.le_trans (Nat.mul_le_mul_right _ (by omega)) hbytes
  have hcells := (h.take n).cells 0
  rw [List.drop_zero, Nat.zero_mul] at hcells
  have hl0 : (xs.take n).length = n := by rw [List.length_take]; omega
  have hf := run_firstCells_some (P := P) w.drew i.size n ⟨g, 0, none⟩ n cap ((xs.take n).map e.f).flatten (by rw [flat_length, hl0, hs]) (by simpa using hcells)
  have hne : ¬ (n + m ≤ cap) := by omega
  have h63 : ¬ (9223372036854775807 < ((n : Int) + (m : Int))) := by omega
  have hfit : Builtin.nextslicecap (n + m) cap * i.bytes ≤ 281474976710656 := growslice_fits hg hbytes
  have h48 : ¬ (281474976710656 < Builtin.nextslicecap (n + m) cap * i.bytes) := by omega
  have hw : IntKind.i64.wrap (m : Int) = m := by rw [IntKind.wrap_i64]; omega
  have hm0 : ¬ ((m : Int) < 0) := by omega
  have hmb2 : ¬ (281474976710656 < (m : Int) * (i.bytes : Int)) := by
    have : ((m * i.bytes : Nat) : Int) ≤ 140737488355328 := by omega
    rw [Int.natCast_mul] at this; omega
  have hge := grownCap_ge w (n + m) cap T
  refine ⟨grownCap w (n + m) cap T, w.drew.alloc (.cells (((xs.take n).map e.f).flatten ++ ((List.replicate m x0).map e.f).flatten ++ ((List.replicate (grownCap w (n + m) cap T - (n + m)) x0).map e.f).flatten).toArray T), ?_, ?_, ?_, grownCap_le_maxLen w (n + m) cap T (by unfold maxLen; omega)⟩
  rotate_left
  · refine ⟨⟨_, heap_alloc_new w.drew _, ?_, ?_⟩, ?_⟩
    · simp only [List.length_append, flat_length, List.length_replicate, hl0]
      rw [← Nat.add_mul, ← Nat.add_mul]; congr 1; omega
    · have := says_flat (e := e) (xs.take n ++ List.replicate m x0 ++ List.replicate (grownCap w (n + m) cap T - (n + m)) x0)
      rw [List.map_append, List.map_append, List.flatten_append, List.flatten_append] at this
      intro i' x hx j u hu
      have hi' : i' < (xs.take n ++ List.replicate m x0).length := (List.getElem?_eq_some_iff.1 hx).1
      exact this i' x (by rw [List.getElem?_append_left hi']; exact hx) j u hu
    · simp only [List.length_append, List.length_replicate, hl0]; exact hge
  · exact ((Below.refl _ _).drew).alloc (Nat.le_refl _) _
  · have hz1 := zeroCells_says (e := e) hx0 m
    have hz2 := zeroCells_says (e := e) hx0 (grownCap w (n + m) cap T - (n + m))
    have hz1' : Builtin.zeroCells z m = ((List.replicate m x0).map e.f).flatten.toArray := by rw [← hz1]
    have hz2' : Builtin.zeroCells z (grownCap w (n + m) cap T - (n + m)) = ((List.replicate (grownCap w (n + m) cap T - (n + m)) x0).map e.f).flatten.toArray := by rw [← hz2]
    have hmz : m * i.size = 0 → ((List.replicate m x0).map e.f).flatten.toArray = #[] := fun hh => by
      have : ((List.replicate m x0).map e.f).flatten.length = 0 := by rw [flat_length, List.length_replicate, ← hs]; exact hh
      rw [List.eq_nil_of_length_eq_zero this]
    clear hcells hz1 hz2
    generalize ((xs.take n).map e.f).flatten = F1 at hf ⊢
    generalize ((List.replicate m x0).map e.f).flatten = F2 at hz1' hmz ⊢
    generalize ((List.replicate (grownCap w (n + m) cap T - (n + m)) x0).map e.f).flatten = F3 at hz2' ⊢
    have hgc : (Question.appendCap (n + m) cap T).cut (w.tape w.drawn (Question.appendCap (n + m) cap T)) = grownCap w (n + m) cap T := rfl
    by_cases hmm : m * i.size = 0
    · have := hmz hmm
      simp [appzRun, Builtin.append_, run_underlying E.ht, run_underlying hu, sizeOf, typeInfo, zeroValue, hi, hz', Builtin.lenOf, hne, h63, h48, hw, hm0, hmb2, asInt, asIntOf, Question.forced, hf, newRow, hmm, Value.cells]
      rw [hgc, hz2']
      have hF2 : F2 = [] := by simpa using this
      subst hF2
      simp
    · simp [appzRun, Builtin.append_, run_underlying E.ht, run_underlying hu, sizeOf, typeInfo, zeroValue, hi, hz', Builtin.lenOf, hne, h63, h48, hw, hm0, hmb2, asInt, asIntOf, Question.forced, hf, newRow, hmm, Value.cells, hz1']
      rw [hgc, hz2']
      simp
/-- What lies in cells of other types stays where a row of the call's own is written. -/
theorem Row.keeps {B : Bs} {ts : List TypeId} {g cap : Nat} {xs : List α} {w w' : World} (h : Row e T g cap xs w) (hB : B.lo ≤ g) (hT : T ∉ ts) (hg : w.grownBy w' (some g)) : Keeps B ts w w' := by
  obtain ⟨cur, hgg, _⟩ := h.ex
  refine ⟨hg.size, fun b o hb ho => (hg.block b (Array.getElem?_eq_some_iff.1 hb).1 fun e => ?_).trans hb⟩
  obtain rfl : b = g := Option.some.inj e
  rw [hgg] at hb
  rcases ho with ho | ⟨cur', t, fr, rfl, ht, _⟩
  · omega
  · simp at hb
    exact hT (hb.2.1 ▸ ht)
theorem setCell_grown (w : World) (g o : Nat) (u : Value) : w.grownBy (w.setCell ⟨g, o, none⟩ u) (some g) := by
  refine ⟨rfl, rfl, rfl, by simp, fun i hi hne => ?_⟩
  rw [Go.Sort.setCell_eq]
  have : g ≠ i := fun e => hne (by rw [e])
  simp [Go.Sort.mapBlock, Array.getElem?_modify, this]
/-- An append to a row that has no room: a new row. -/
theorem Row.grow {P : Program} {t : TypeId} {bytes : Nat} (E : Elem P t T e.k bytes) (ty : TypeId) {z : Array Value} (hzv : ∀ w, (zeroValue T).run P w = .ok (.agg z) w) {x0 : α} (hx0 : z.toList = e.f x0) {g cap : Nat} {xs ys : List α} {w : World} (h : Row e T g cap xs w) (hg : cap < xs.length + ys.length) (h6 : xs.length + ys.length ≤ 1000000000) (hby : bytes ≤ 100000) (ad : Addr) (c : Nat)
    (hc : ∀ j u, (ys.map e.f).flatten[j]? = some u → w.cell? (ad.add j) = some u) :
    ∃ c' w', appRun P t ty (.slice (some ⟨g, 0, none⟩) xs.length cap) (.slice (some ad) ys.length c) w = .ok (.slice (some ⟨w.heap.size, 0, none⟩) (xs.length + ys.length) c') w' ∧ Row e T w.heap.size c' (xs ++ ys) w' ∧ Below w.heap.size w w' ∧ c' ≤ maxLen := by
  obtain ⟨i, z', hi, hz', hs, hb, hzs⟩ := E.ex
  have hzz : z' = .agg z := by
    have := hzv w
    simpa [zeroValue, typeInfo, hi, hz'] using this
  subst hzz
  subst hb
  have hbytes : (xs.length + ys.length) * i.bytes ≤ 140737488355328 := Nat.le_trans (Nat.mul_le_mul h6 hby) (by decide)
  have hcells := h.cells 0
  rw [List.drop_zero, Nat.zero_mul] at hcells
  have hr := run_append_grow (P := P) w t ty T i _ E.ht hi hz' ⟨g, 0, none⟩ xs.length cap (xs.map e.f).flatten (by rw [flat_length, hs]) hcells ad ys.length c (ys.map e.f).flatten (by rw [flat_length, hs]) hc hg (by omega) (growslice_fits hg hbytes)
  have hge := grownCap_ge w (xs.length + ys.length) cap T
  have hz2 := zeroCells_says (e := e) hx0 (grownCap w (xs.length + ys.length) cap T - (xs.length + ys.length))
  have hz2' : Builtin.zeroCells (Value.agg z).cells (grownCap w (xs.length + ys.length) cap T - (xs.length + ys.length)) = ((List.replicate (grownCap w (xs.length + ys.length) cap T - (xs.length + ys.length)) x0).map e.f).flatten.toArray := by rw [← hz2]; rfl
  rw [hz2'] at hr
  refine ⟨_, _, hr, ⟨⟨(xs.map e.f).flatten ++ (ys.map e.f).flatten ++ ((List.replicate (grownCap w (xs.length + ys.length) cap T - (xs.length + ys.length)) x0).map e.f).flatten, ?_, ?_, ?_⟩, by rw [List.length_append]; exact hge⟩, ((Below.refl _ _).drew).alloc (Nat.le_refl _) _, grownCap_le_maxLen w _ cap T (by unfold maxLen; omega)⟩
  · have := heap_alloc_new w.drew (.cells ((xs.map e.f).flatten.toArray ++ (ys.map e.f).flatten.toArray ++ ((List.replicate (grownCap w (xs.length + ys.length) cap T - (xs.length + ys.length)) x0).map e.f).flatten.toArray) T)
    simpa using this
  · simp only [List.length_append, flat_length, List.length_replicate]
    rw [← Nat.add_mul, ← Nat.add_mul]; congr 1; omega
  · have := says_flat (e := e) (xs ++ ys ++ List.replicate (grownCap w (xs.length + ys.length) cap T - (xs.length + ys.length)) x0)
    rw [List.map_append, List.map_append, List.flatten_append, List.flatten_append] at this
    intro i' x hx j u hu
    have hi' : i' < (xs ++ ys).length := (List.getElem?_eq_some_iff.1 hx).1
    exact this i' x (by rw [List.getElem?_append_left hi']; exact hx) j u hu
theorem Row.cells0 {g cap : Nat} {xs : List α} {w : World} (h : Row e T g cap xs w) : ∀ j u, (xs.map e.f).flatten[j]? = some u → w.cell? ((⟨g, 0, none⟩ : Addr).add j) = some u := by
  have := h.cells 0
  rwa [List.drop_zero, Nat.zero_mul] at this
theorem Row.apart {g cap g' : Nat} {xs : List α} {w w' : World} (h : Row e T g cap xs w) (hg : w.grownBy w' (some g')) (hne : g ≠ g') : Row e T g cap xs w' :=
  h.block (hg.block g h.lt (by simpa using hne))
end
end Go.Proofs.Ytmaecknjamnnpaa.Ro
