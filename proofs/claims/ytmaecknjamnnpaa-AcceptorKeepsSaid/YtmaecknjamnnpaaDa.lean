/- Data in memory, nested as they may be: what a value's cells say. Of no program. -/
import Derived.Test.YtmaecknjamnnpaaRw
import Derived.Laws.AppendOwn
import Derived.Laws.OwnMore
namespace Go.Proofs.Ytmaecknjamnnpaa.Da
open Go.RowKit
set_option linter.unusedVariables false
open Go.Proofs.Ytmaecknjamnnpaa.Rw (nx)
/-- Where data may lie: below lo, or in cells of their types, but not in the blocks ex (variables that are still written). -/
structure Bs where
  lo : Nat
  ex : Nat → Prop
/-- Blocks from n on are free for new data. -/
def Bs.le (B : Bs) (n : Nat) : Prop := B.lo ≤ n ∧ ∀ b, B.ex b → b < n
theorem Bs.le.mono {B : Bs} {n m : Nat} (h : B.le n) (k : n ≤ m) : B.le m := ⟨Nat.le_trans h.1 k, fun b hb => Nat.lt_of_lt_of_le (h.2 b hb) k⟩
def Bs.of (n : Nat) : Bs := ⟨n, fun _ => False⟩
theorem Bs.of_le (n : Nat) : (Bs.of n).le n := ⟨Nat.le_refl n, fun _ h => h.elim⟩
/-- The same, but for these blocks too. -/
def Bs.but (B : Bs) (X : Nat → Prop) : Bs := ⟨B.lo, fun b => B.ex b ∨ X b⟩
theorem Bs.but_le {B : Bs} {X : Nat → Prop} {n : Nat} (h : B.le n) (hX : ∀ b, X b → b < n) : (B.but X).le n := ⟨h.1, fun b hb => hb.elim (h.2 b) (hX b)⟩
/-- B allows what A allows. -/
def Bs.sub (A B : Bs) : Prop := A.lo ≤ B.lo ∧ ∀ b, B.ex b → A.ex b ∨ b < A.lo
theorem Bs.sub_but (B : Bs) (X : Nat → Prop) : (B.but X).sub B := ⟨Nat.le_refl _, fun b hb => .inl (.inl hb)⟩
theorem Bs.sub_of {B : Bs} {n : Nat} (h : B.le n) : B.sub (Bs.of n) := ⟨h.1, fun _ h => h.elim⟩
/-- What lies where B lets it, and cells of the types ts, lie as they lay. -/
structure Keeps (B : Bs) (ts : List TypeId) (w w' : World) : Prop where
  size : w.heap.size ≤ w'.heap.size
  block : ∀ b o, w.heap[b]? = some o → (b < B.lo ∨ ∃ cur t fr, o = .cells cur t fr ∧ t ∈ ts ∧ ¬ B.ex b) → w'.heap[b]? = some o
theorem Keeps.refl (B : Bs) (ts : List TypeId) (w : World) : Keeps B ts w w := ⟨Nat.le_refl _, fun _ _ h _ => h⟩
theorem Keeps.trans {B : Bs} {ts : List TypeId} {a b c : World} (h : Keeps B ts a b) (k : Keeps B ts b c) : Keeps B ts a c :=
  ⟨Nat.le_trans h.size k.size, fun i o hi ho => k.block i o (h.block i o hi ho) ho⟩
theorem Keeps.of_below {B : Bs} {ts : List TypeId} {w w' : World} (h : Below w.heap.size w w') : Keeps B ts w w' :=
  ⟨h.size, fun b o hb _ => (h.block b (Array.getElem?_eq_some_iff.1 hb).1).trans hb⟩
theorem Keeps.less {B : Bs} {ts ts' : List TypeId} {w w' : World} (h : Keeps B ts w w') (hs : ∀ t ∈ ts', t ∈ ts) : Keeps B ts' w w' :=
  ⟨h.size, fun b o hb ho => h.block b o hb (ho.imp id fun ⟨cur, t, fr, e, ht, hx⟩ => ⟨cur, t, fr, e, hs t ht, hx⟩)⟩
theorem Keeps.low {B B' : Bs} {ts : List TypeId} {w w' : World} (h : Keeps B' ts w w') (hB : B.sub B') : Keeps B ts w w' :=
  ⟨h.size, fun b o hb ho => h.block b o hb (by
    rcases ho with ho | ⟨cur, t, fr, e, ht, hx⟩
    · exact .inl (Nat.lt_of_lt_of_le ho hB.1)
    · by_cases hl : b < B'.lo
      · exact .inl hl
      · exact .inr ⟨cur, t, fr, e, ht, fun hb' => (hB.2 b hb').elim hx (fun h => hl (Nat.lt_of_lt_of_le h hB.1))⟩)⟩
/-- Behind an append to a row of cells of another type. -/
theorem Keeps.grown {B : Bs} {Bo : Nat} {ts : List TypeId} {T : TypeId} {k n : Nat} {v : Value} {xs : List Value} {w w' : World} (hr : w.ownsRow Bo T k v n xs) (hB : B.le Bo) (hT : T ∉ ts) (hg : w.grownBy w' v.ownBlock) : Keeps B ts w w' := by
  refine ⟨hg.size, fun b o hb ho => (hg.block b (Array.getElem?_eq_some_iff.1 hb).1 fun e => ?_).trans hb⟩
  rcases hr.2 with ⟨rfl, _⟩ | ⟨g, cap, cur, rfl, hbase, hgb, _⟩
  · simp [Value.ownBlock] at e
  · obtain rfl : b = g := by simpa [Value.ownBlock] using e
    rw [hgb] at hb
    rcases ho with ho | ⟨cur', t, fr, rfl, ht, _⟩
    · have := hB.1; omega
    · simp at hb
      exact hT (hb.2.1 ▸ ht)
theorem grown_refl (w : World) (ob : Option Nat) : w.grownBy w ob := ⟨rfl, rfl, rfl, Nat.le_refl _, fun _ _ _ => rfl⟩
theorem grown_drew (w : World) (ob : Option Nat) : w.grownBy w.drew ob := ⟨rfl, rfl, rfl, Nat.le_refl _, fun _ _ _ => rfl⟩
theorem grown_trans {a b c : World} {ob : Option Nat} (h : a.grownBy b ob) (k : b.grownBy c ob) : a.grownBy c ob :=
  ⟨k.os.trans h.os, k.tape.trans h.tape, k.output.trans h.output, Nat.le_trans h.size k.size, fun i hi hne => (k.block i (Nat.lt_of_lt_of_le hi h.size) hne).trans (h.block i hi hne)⟩
theorem grown_below {w w' : World} (ob : Option Nat) (h : Below w.heap.size w w') : w.grownBy w' ob := ⟨h.os, h.tape, h.output, h.size, fun i hi _ => h.block i hi⟩
theorem grown_stays (W : World) (ob : Option Nat) (u u' : World) (h : W.grownBy u ob) (k : Below u.heap.size u u') : W.grownBy u' ob := grown_trans h (grown_below ob k)
theorem grown_cell {w w' : World} {ob : Option Nat} (h : w.grownBy w' ob) {b o : Nat} (hb : b < w.heap.size) (hne : some b ≠ ob) : w'.cell? ⟨b, o, none⟩ = w.cell? ⟨b, o, none⟩ := World.cell?_of_block (w := w) (h.block b hb hne)
/-- All that lay lies as it lay, but for the blocks X. -/
structure Alt (X : Nat → Prop) (w w' : World) : Prop where
  os : w'.os = w.os
  tape : w'.tape = w.tape
  output : w'.output = w.output
  size : w.heap.size ≤ w'.heap.size
  block : ∀ b, b < w.heap.size → ¬ X b → w'.heap[b]? = w.heap[b]?
theorem Alt.refl (X : Nat → Prop) (w : World) : Alt X w w := ⟨rfl, rfl, rfl, Nat.le_refl _, fun _ _ _ => rfl⟩
theorem Alt.trans {X : Nat → Prop} {a b c : World} (h : Alt X a b) (k : Alt X b c) : Alt X a c :=
  ⟨k.os.trans h.os, k.tape.trans h.tape, k.output.trans h.output, Nat.le_trans h.size k.size, fun i hi hx => (k.block i (Nat.lt_of_lt_of_le hi h.size) hx).trans (h.block i hi hx)⟩
theorem Alt.of_below {X : Nat → Prop} {w w' : World} (h : Below w.heap.size w w') : Alt X w w' := ⟨h.os, h.tape, h.output, h.size, fun b hb _ => h.block b hb⟩
theorem Alt.below {X : Nat → Prop} {a w w' : World} {n : Nat} (h : Below n a w) (k : Alt X w w') (hn : n ≤ w.heap.size) (hX : ∀ b, X b → n ≤ b) : Below n a w' :=
  ⟨k.os.trans h.os, k.tape.trans h.tape, k.output.trans h.output, Nat.le_trans h.size k.size, fun b hb => (k.block b (Nat.lt_of_lt_of_le hb hn) fun hx => by have := hX b hx; omega).trans (h.block b hb)⟩
theorem Alt.grown {X : Nat → Prop} {a w w' : World} {ob : Option Nat} (h : Alt X a w) (hg : w.grownBy w' ob) (ho : ∀ k, ob = some k → a.heap.size ≤ k) : Alt X a w' :=
  ⟨hg.os.trans h.os, hg.tape.trans h.tape, hg.output.trans h.output, Nat.le_trans h.size hg.size, fun b hb hx => (hg.block b (Nat.lt_of_lt_of_le hb h.size) fun e => by have := ho b e.symm; omega).trans (h.block b hb hx)⟩
theorem grown_block {w w' : World} {ob : Option Nat} (hg : w.grownBy w' ob) {b : Nat} (hb : b < w.heap.size) (ho : ∀ k, ob = some k → b ≠ k) : w'.heap[b]? = w.heap[b]? := hg.block b hb fun e => ho b e.symm rfl
theorem Keeps.of_alt {B : Bs} {ts : List TypeId} {X : Nat → Prop} {w w' : World} (h : Alt X w w') (hX : ∀ b, X b → b < w.heap.size → B.ex b ∧ B.lo ≤ b) : Keeps B ts w w' :=
  ⟨h.size, fun b o hb ho => (h.block b (Array.getElem?_eq_some_iff.1 hb).1 fun hx => by
    have h1 := hX b hx (Array.getElem?_eq_some_iff.1 hb).1
    rcases ho with ho | ⟨_, _, _, _, _, hn⟩
    · omega
    · exact hn h1.1).trans hb⟩
/-- How data of a kind lie in k cells. -/
structure Enc (α : Type) where
  k : Nat
  ts : List TypeId
  R : Bs → α → List Value → World → Prop
  len : ∀ {B x cs w}, R B x cs w → cs.length = k
  one : ∀ {B x cs w}, R B x cs w → ∀ u ∈ cs, u.oneCell' = true
  keep : ∀ {B x cs w w'}, R B x cs w → Keeps B ts w w' → R B x cs w'
  up : ∀ {A B x cs w}, A.sub B → R A x cs w → R B x cs w
  now : ∀ {B x cs w X}, R B x cs w → (∀ b, X b → w.heap.size ≤ b) → R (B.but X) x cs w
theorem Enc.stays {α : Type} (e : Enc α) {B : Bs} {x : α} {cs : List Value} {w w' : World} (h : e.R B x cs w) (hb : Below w.heap.size w w') : e.R B x cs w' := e.keep h (Keeps.of_below hb)
/-- Cells that say it by themselves. -/
def Enc.flat {α : Type} (k : Nat) (f : α → List Value) (hl : ∀ x, (f x).length = k) (h1 : ∀ x, ∀ u ∈ f x, u.oneCell' = true) : Enc α where
  k := k
  ts := []
  R := fun _ x cs _ => cs = f x
  len := fun h => by rw [h]; exact hl _
  one := fun h => by rw [h]; exact h1 _
  keep := fun h _ => h
  up := fun _ h => h
  now := fun h _ => h
def Enc.both {α β : Type} (e : Enc α) (f : Enc β) : Enc (α × β) where
  k := e.k + f.k
  ts := e.ts ++ f.ts
  R := fun B x cs w => ∃ c d, cs = c ++ d ∧ e.R B x.1 c w ∧ f.R B x.2 d w
  len := fun ⟨c, d, hc, h1, h2⟩ => by rw [hc, List.length_append, e.len h1, f.len h2]
  one := fun ⟨c, d, hc, h1, h2⟩ u hu => by
    rw [hc] at hu
    rcases List.mem_append.1 hu with hu | hu
    · exact e.one h1 u hu
    · exact f.one h2 u hu
  keep := fun ⟨c, d, hc, h1, h2⟩ hk => ⟨c, d, hc, e.keep h1 (hk.less fun t ht => List.mem_append_left _ ht), f.keep h2 (hk.less fun t ht => List.mem_append_right _ ht)⟩
  up := fun hB ⟨c, d, hc, h1, h2⟩ => ⟨c, d, hc, e.up hB h1, f.up hB h2⟩
  now := fun ⟨c, d, hc, h1, h2⟩ hX => ⟨c, d, hc, e.now h1 hX, f.now h2 hX⟩
section
variable {α : Type} (e : Enc α) (T : TypeId)
/-- From block b, cell off on lie the elements of l. -/
def Lies (B : Bs) (l : List α) (b off : Nat) (w : World) : Prop :=
  b < w.heap.size ∧ (b < B.lo ∨ (∃ cur, w.heap[b]? = some (.cells cur T (0, 0))) ∧ ¬ B.ex b) ∧ ∀ i x, l[i]? = some x → ∃ cs, e.R B x cs w ∧ ∀ j u, cs[j]? = some u → w.cell? ⟨b, off + i * e.k + j, none⟩ = some u
/-- v is a slice that holds l. -/
def Is (B : Bs) (l : List α) (v : Value) (w : World) : Prop := ∃ a c, v = .slice a l.length c ∧ (l = [] ∧ (a = none → c = 0) ∨ ∃ b off, a = some ⟨b, off, none⟩ ∧ Lies e T B l b off w)
theorem Lies.keep {B : Bs} {l : List α} {b off : Nat} {w w' : World} (h : Lies e T B l b off w) (hk : Keeps B (T :: e.ts) w w') : Lies e T B l b off w' := by
  obtain ⟨h1, h2, h3⟩ := h
  have hb : w'.heap[b]? = w.heap[b]? := by
    rw [Array.getElem?_eq_getElem h1]
    refine hk.block b _ (Array.getElem?_eq_getElem h1) (h2.imp id fun ⟨⟨cur, e⟩, hx⟩ => ⟨cur, T, (0, 0), ?_, List.mem_cons_self, hx⟩)
    rw [Array.getElem?_eq_getElem h1] at e
    exact Option.some.inj e
  refine ⟨Nat.lt_of_lt_of_le h1 hk.size, h2.imp id fun ⟨⟨cur, e⟩, hx⟩ => ⟨⟨cur, hb.trans e⟩, hx⟩, fun i x hx => ?_⟩
  obtain ⟨cs, hc, hu⟩ := h3 i x hx
  exact ⟨cs, e.keep hc (hk.less fun t ht => List.mem_cons_of_mem _ ht), fun j u hj => by rw [World.cell?_of_block (w := w) hb]; exact hu j u hj⟩
theorem Is.keep {B : Bs} {l : List α} {v : Value} {w w' : World} (h : Is e T B l v w) (hk : Keeps B (T :: e.ts) w w') : Is e T B l v w' := by
  obtain ⟨a, c, hv, h⟩ := h
  exact ⟨a, c, hv, h.imp id fun ⟨b, off, ha, h⟩ => ⟨b, off, ha, h.keep e T hk⟩⟩
theorem Is.stays {B : Bs} {l : List α} {v : Value} {w w' : World} (h : Is e T B l v w) (hb : Below w.heap.size w w') : Is e T B l v w' := h.keep e T (Keeps.of_below hb)
theorem Lies.up {A B : Bs} {l : List α} {b off : Nat} {w : World} (hB : A.sub B) (h : Lies e T A l b off w) : Lies e T B l b off w := by
  obtain ⟨h1, h2, h3⟩ := h
  refine ⟨h1, ?_, fun i x hx => ?_⟩
  · rcases h2 with h2 | ⟨h2, hx⟩
    · exact .inl (Nat.lt_of_lt_of_le h2 hB.1)
    · by_cases hl : b < B.lo
      · exact .inl hl
      · exact .inr ⟨h2, fun hb => (hB.2 b hb).elim hx (fun h => hl (Nat.lt_of_lt_of_le h hB.1))⟩
  · obtain ⟨cs, hc, hu⟩ := h3 i x hx
    exact ⟨cs, e.up hB hc, hu⟩
theorem Is.up {A B : Bs} {l : List α} {v : Value} {w : World} (hB : A.sub B) (h : Is e T A l v w) : Is e T B l v w := by
  obtain ⟨a, c, hv, h⟩ := h
  exact ⟨a, c, hv, h.imp id fun ⟨b, off, ha, h⟩ => ⟨b, off, ha, h.up e T hB⟩⟩
/-- New blocks are none of those that it lies in. -/
theorem Is.now {B : Bs} {l : List α} {v : Value} {w : World} {X : Nat → Prop} (h : Is e T B l v w) (hX : ∀ b, X b → w.heap.size ≤ b) : Is e T (B.but X) l v w := by
  obtain ⟨a, c, hv, h⟩ := h
  refine ⟨a, c, hv, h.imp id fun ⟨b, off, ha, h1, h2, h3⟩ => ⟨b, off, ha, h1, h2.imp id (fun ⟨h, hx⟩ => ⟨h, fun hb => hb.elim hx (fun hb => by have := hX b hb; omega)⟩), fun i x hx => ?_⟩⟩
  obtain ⟨cs, hc, hu⟩ := h3 i x hx
  exact ⟨cs, e.now hc hX, hu⟩
/-- A slice, as data in one cell. -/
def Enc.slice : Enc (List α) where
  k := 1
  ts := T :: e.ts
  R := fun B l cs w => ∃ v, cs = [v] ∧ Is e T B l v w
  len := fun ⟨v, hc, _⟩ => by rw [hc]; rfl
  one := fun ⟨v, hc, a, c, hv, _⟩ u hu => by rw [hc] at hu; simp at hu; subst hu; subst hv; rfl
  keep := fun ⟨v, hc, h⟩ hk => ⟨v, hc, h.keep e T hk⟩
  up := fun hB ⟨v, hc, h⟩ => ⟨v, hc, h.up e T hB⟩
  now := fun ⟨v, hc, h⟩ hX => ⟨v, hc, h.now e T hX⟩
theorem Is.nil (B : Bs) (w : World) : Is e T B [] (.slice none 0 0) w := ⟨none, 0, rfl, .inl ⟨rfl, fun _ => rfl⟩⟩
theorem Is.empty (B : Bs) (a : Addr) (c : Nat) (w : World) : Is e T B [] (.slice (some a) 0 c) w := ⟨some a, c, rfl, .inl ⟨rfl, fun h => by cases h⟩⟩
theorem Is.cases {B : Bs} {l : List α} {v : Value} {w : World} (h : Is e T B l v w) : (l = [] ∧ ∃ a c, v = .slice a 0 c) ∨ (l ≠ [] ∧ ∃ b off c, v = .slice (some ⟨b, off, none⟩) l.length c ∧ Lies e T B l b off w) := by
  obtain ⟨a, c, hv, h⟩ := h
  by_cases e : l = []
  · subst e; exact .inl ⟨rfl, a, c, hv⟩
  · rcases h with ⟨h, _⟩ | ⟨b, off, rfl, h⟩
    · exact absurd h e
    · exact .inr ⟨e, b, off, c, hv, h⟩
theorem Is.len {B : Bs} {l : List α} {v : Value} {w : World} (h : Is e T B l v w) : ∃ a c, v = .slice a l.length c := by
  obtain ⟨a, c, hv, _⟩ := h; exact ⟨a, c, hv⟩
/-- A slice that the call has made, from block Bo on; its elements lie as data of base B. -/
def Own (B : Bs) (Bo : Nat) (l : List α) (v : Value) (w : World) : Prop :=
  ∃ css : List (List Value), css.length = l.length ∧ (∀ (i : Nat) (x : α) (cs : List Value), l[i]? = some x → css[i]? = some cs → e.R B x cs w) ∧ w.ownsRow Bo T e.k v l.length css.flatten
theorem flat_at {css : List (List Value)} {k : Nat} (hk : ∀ cs ∈ css, cs.length = k) : ∀ (i : Nat) (cs : List Value), css[i]? = some cs → ∀ j u, cs[j]? = some u → css.flatten[i * k + j]? = some u := by
  induction css with
  | nil => intro i cs h; simp at h
  | cons c css ih =>
    intro i cs h j u hu
    have hc := hk c List.mem_cons_self
    have hj : j < cs.length := by
      rcases Nat.lt_or_ge j cs.length with h | h
      · exact h
      · rw [List.getElem?_eq_none h] at hu; cases hu
    rw [List.flatten_cons]
    cases i with
    | zero =>
      obtain rfl : c = cs := by simpa using h
      rw [Nat.zero_mul, Nat.zero_add, List.getElem?_append_left hj]; exact hu
    | succ i =>
      have e : (i + 1) * k + j = c.length + (i * k + j) := by rw [hc, Nat.add_mul, Nat.one_mul]; omega
      rw [e, List.getElem?_append_right (by omega), Nat.add_sub_cancel_left]
      exact ih (fun x hx => hk x (List.mem_cons_of_mem _ hx)) i cs (by simpa using h) j u hu
theorem flat_len {css : List (List Value)} {k : Nat} (hk : ∀ cs ∈ css, cs.length = k) : css.flatten.length = css.length * k := by
  induction css with
  | nil => simp
  | cons c css ih => rw [List.flatten_cons, List.length_append, hk c List.mem_cons_self, ih (fun x hx => hk x (List.mem_cons_of_mem _ hx)), List.length_cons, Nat.add_mul, Nat.one_mul, Nat.add_comm]
variable {e T}
theorem Own.lens {B : Bs} {l : List α} {w : World} {css : List (List Value)} (hl : css.length = l.length) (hc : ∀ (i : Nat) (x : α) (cs : List Value), l[i]? = some x → css[i]? = some cs → e.R B x cs w) : ∀ cs ∈ css, cs.length = e.k := by
  intro cs hcs
  obtain ⟨i, hi, rfl⟩ := List.getElem_of_mem hcs
  exact e.len (hc i l[i] _ (List.getElem?_eq_getElem (by omega)) (List.getElem?_eq_getElem hi))
theorem Own.ones {B : Bs} {l : List α} {w : World} {css : List (List Value)} (hl : css.length = l.length) (hc : ∀ (i : Nat) (x : α) (cs : List Value), l[i]? = some x → css[i]? = some cs → e.R B x cs w) : ∀ u ∈ css.flatten, u.oneCell' = true := by
  intro u hu
  obtain ⟨cs, hcs, hu2⟩ := List.mem_flatten.1 hu
  obtain ⟨i, hi, rfl⟩ := List.getElem_of_mem hcs
  exact e.one (hc i l[i] _ (List.getElem?_eq_getElem (by omega)) (List.getElem?_eq_getElem hi)) u hu2
theorem Own.nil (B : Bs) (Bo : Nat) (w : World) : Own e T B Bo [] (.slice none 0 0) w := ⟨[], rfl, by simp, World.ownsRow_nil w Bo _ _⟩
/-- 'make' of nothing, and '[]T{}'. -/
theorem Own.made (B : Bs) (w : World) (Bo : Nat) (hB : Bo ≤ w.heap.size) : Own e T B Bo [] (.slice (some ⟨w.heap.size, 0, none⟩) 0 0) (w.alloc (.cells #[] T)) :=
  ⟨[], rfl, by simp, World.ownsRow_made (base := Bo) (e := T) (size := e.k) w #[] 0 hB (by unfold maxLen; omega) (by simp)⟩
theorem Own.is {B : Bs} {Bo : Nat} {l : List α} {v : Value} {w : World} (h0 : 0 < e.k) (hB : B.le Bo) (h : Own e T B Bo l v w) : Is e T B l v w := by
  obtain ⟨css, hl, hc, hr⟩ := h
  rcases hr.2 with ⟨rfl, h1⟩ | ⟨g, cap, cur, rfl, hbo, hg, _, _, _, ht⟩
  · have e1 : l = [] := List.eq_nil_of_length_eq_zero h1
    subst e1
    exact Is.nil e T B w
  · refine ⟨_, cap, rfl, .inr ⟨g, 0, rfl, (Array.getElem?_eq_some_iff.1 hg).1, .inr ⟨⟨cur, hg⟩, fun hb => by have := hB.2 g hb; omega⟩, fun i x hx => ?_⟩⟩
    have hi : i < l.length := (List.getElem?_eq_some_iff.1 hx).1
    have hci := List.getElem?_eq_getElem (show i < css.length by omega)
    refine ⟨css[i], hc i x _ hx hci, fun j u hu => ?_⟩
    have hf := flat_at (Own.lens hl hc) i _ hci j u hu
    rw [← ht] at hf
    rw [Nat.zero_add]
    simp only [World.cell?, hg]
    have hlt : i * e.k + j < l.length * e.k := by
      rcases Nat.lt_or_ge (i * e.k + j) (l.length * e.k) with h | h
      · exact h
      · rw [List.getElem?_take, if_neg (by omega)] at hf; cases hf
    rw [List.getElem?_take, if_pos hlt] at hf
    simpa using hf
theorem ownsRow_keep {B : Bs} {Bo : Nat} (hB : B.le Bo) {k n : Nat} {v : Value} {xs : List Value} {w w' : World} (h : w.ownsRow Bo T k v n xs) {ts : List TypeId} (hk : Keeps B (T :: ts) w w') : w'.ownsRow Bo T k v n xs := by
  refine ⟨h.1, ?_⟩
  rcases h.2 with h | ⟨g, cap, cur, h1, h2, h3, h4⟩
  · exact .inl h
  · exact .inr ⟨g, cap, cur, h1, h2, hk.block g _ h3 (.inr ⟨cur, T, _, rfl, List.mem_cons_self, fun hb => by have := hB.2 g hb; omega⟩), h4⟩
theorem Own.keep {B : Bs} {Bo : Nat} {l : List α} {v : Value} {w w' : World} (hB : B.le Bo) (h : Own e T B Bo l v w) (hk : Keeps B (T :: e.ts) w w') : Own e T B Bo l v w' := by
  obtain ⟨css, hl, hc, hr⟩ := h
  exact ⟨css, hl, fun i x cs hx hcs => e.keep (hc i x cs hx hcs) (hk.less fun t ht => List.mem_cons_of_mem _ ht), ownsRow_keep hB hr hk⟩
theorem Own.stays {B : Bs} {Bo : Nat} {l : List α} {v : Value} {w w' : World} (h : Own e T B Bo l v w) (hb : Below w.heap.size w w') : Own e T B Bo l v w' := by
  obtain ⟨css, hl, hc, hr⟩ := h
  refine ⟨css, hl, fun i x cs hx hcs => e.stays (hc i x cs hx hcs) hb, hr.1, ?_⟩
  rcases hr.2 with h | ⟨g, cap, cur, h1, h2, h3, h4⟩
  · exact .inl h
  · exact .inr ⟨g, cap, cur, h1, h2, (hb.block g (Array.getElem?_eq_some_iff.1 h3).1).trans h3, h4⟩
theorem add_eq (b off j : Nat) : (⟨b, off, none⟩ : Addr).add j = ⟨b, off + j, none⟩ := by
  unfold Addr.add
  split
  · rename_i h; rw [h]; rfl
  · rfl
theorem flat_inv {css : List (List Value)} {k : Nat} (hk : ∀ cs ∈ css, cs.length = k) : ∀ (j : Nat) (u : Value), css.flatten[j]? = some u → ∃ i cs j', css[i]? = some cs ∧ cs[j']? = some u ∧ j = i * k + j' := by
  induction css with
  | nil => intro j u h; simp at h
  | cons c css ih =>
    intro j u h
    rw [List.flatten_cons] at h
    have hc := hk c List.mem_cons_self
    by_cases hj : j < k
    · rw [List.getElem?_append_left (by rw [hc]; exact hj)] at h
      exact ⟨0, c, j, rfl, h, by omega⟩
    · rw [List.getElem?_append_right (by rw [hc]; omega), hc] at h
      obtain ⟨i, cs, j', h1, h2, h3⟩ := ih (fun x hx => hk x (List.mem_cons_of_mem _ hx)) _ _ h
      exact ⟨i + 1, cs, j', by simpa using h1, h2, by rw [Nat.add_mul, Nat.one_mul]; omega⟩
/-- What an append of a whole list asks of it. -/
theorem Is.src {B : Bs} {l : List α} {v : Value} {w : World} (h : Is e T B l v w) : (l = [] ∧ v = .slice none 0 0) ∨ ∃ (ad : Addr) (c : Nat) (css : List (List Value)), v = .slice (some ad) l.length c ∧ css.length = l.length ∧ (∀ (i : Nat) (x : α) (cs : List Value), l[i]? = some x → css[i]? = some cs → e.R B x cs w) ∧ ∀ j u, css.flatten[j]? = some u → w.cell? (ad.add j) = some u := by
  classical
  obtain ⟨a, c, rfl, h⟩ := h
  rcases h with ⟨rfl, h⟩ | ⟨b, off, rfl, h1, h2, h3⟩
  · cases a with
    | none => rw [h rfl]; exact .inl ⟨rfl, rfl⟩
    | some ad => exact .inr ⟨ad, c, [], rfl, rfl, by simp, by simp⟩
  · right
    have hg : ∀ i, ∃ cs : List Value, ∀ (hi : i < l.length), e.R B l[i] cs w ∧ ∀ j u, cs[j]? = some u → w.cell? ⟨b, off + i * e.k + j, none⟩ = some u := fun i => by
      by_cases hi : i < l.length
      · obtain ⟨cs, hc, hu⟩ := h3 i l[i] (List.getElem?_eq_getElem hi)
        exact ⟨cs, fun _ => ⟨hc, hu⟩⟩
      · exact ⟨[], fun h => absurd h hi⟩
    let f := fun i => Classical.choose (hg i)
    have hf : ∀ i (hi : i < l.length), e.R B l[i] (f i) w ∧ ∀ j u, (f i)[j]? = some u → w.cell? ⟨b, off + i * e.k + j, none⟩ = some u := fun i => Classical.choose_spec (hg i)
    have hat : ∀ i, i < l.length → ((List.range l.length).map f)[i]? = some (f i) := fun i hi => by simp [hi]
    have hR : ∀ (i : Nat) (x : α) (cs : List Value), l[i]? = some x → ((List.range l.length).map f)[i]? = some cs → e.R B x cs w := fun i x cs hx hcs => by
      obtain ⟨hi, rfl⟩ := List.getElem?_eq_some_iff.1 hx
      rw [hat i hi] at hcs
      obtain rfl := Option.some.inj hcs
      exact (hf i hi).1
    refine ⟨⟨b, off, none⟩, c, (List.range l.length).map f, rfl, by simp, hR, fun j u hu => ?_⟩
    have hlen : ∀ cs ∈ (List.range l.length).map f, cs.length = e.k := Own.lens (by simp) hR
    obtain ⟨i, cs, j', h4, h5, rfl⟩ := flat_inv hlen j u hu
    have hi : i < l.length := by
      have := (List.getElem?_eq_some_iff.1 h4).1
      simpa using this
    rw [hat i hi] at h4
    obtain rfl := Option.some.inj h4
    rw [add_eq, ← Nat.add_assoc]
    exact (hf i hi).2 j' u h5
/-- Behind an append of some elements. -/
theorem Own.app {B : Bs} {Bo : Nat} {l m : List α} {v v' : Value} {w w' : World} {css dss : List (List Value)} (hT : T ∉ e.ts) (hB : B.le Bo) (hl : css.length = l.length) (hc : ∀ (i : Nat) (x : α) (cs : List Value), l[i]? = some x → css[i]? = some cs → e.R B x cs w) (hr : w.ownsRow Bo T e.k v l.length css.flatten)
    (hl2 : dss.length = m.length) (hd : ∀ (i : Nat) (x : α) (cs : List Value), m[i]? = some x → dss[i]? = some cs → e.R B x cs w) (hr' : w'.ownsRow Bo T e.k v' (l.length + m.length) (css.flatten ++ dss.flatten)) (hg : w.grownBy w' v.ownBlock) : Own e T B Bo (l ++ m) v' w' := by
  have hk : Keeps B e.ts w w' := Keeps.grown hr hB hT hg
  refine ⟨css ++ dss, by simp [hl, hl2], fun i x cs hx hcs => e.keep ?_ hk, by rw [List.flatten_append, List.length_append]; exact hr'⟩
  rcases Nat.lt_or_ge i l.length with hi | hi
  · rw [List.getElem?_append_left hi] at hx
    rw [List.getElem?_append_left (by omega)] at hcs
    exact hc i x cs hx hcs
  · rw [List.getElem?_append_right hi] at hx
    rw [List.getElem?_append_right (by omega), hl] at hcs
    exact hd _ x cs hx hcs
theorem Own.snoc {B : Bs} {Bo : Nat} {l : List α} {x : α} {v v' : Value} {w w' : World} {css : List (List Value)} {cs : List Value} (hT : T ∉ e.ts) (hB : B.le Bo) (hl : css.length = l.length) (hc : ∀ (i : Nat) (x : α) (cs : List Value), l[i]? = some x → css[i]? = some cs → e.R B x cs w) (hr : w.ownsRow Bo T e.k v l.length css.flatten)
    (hd : e.R B x cs w) (hr' : w'.ownsRow Bo T e.k v' (l.length + 1) (css.flatten ++ cs)) (hg : w.grownBy w' v.ownBlock) : Own e T B Bo (l ++ [x]) v' w' :=
  Own.app (dss := [cs]) hT hB hl hc hr rfl (fun i y ds hy hds => by
    cases i with
    | zero => simp at hy hds; subst hy; subst hds; exact hd
    | succ i => simp at hy) (by simpa using hr') hg
/-- What an append asks of a slice's type t, of elements of type T, of k cells and so many bytes each. -/
structure Elem (P : Program) (t T : TypeId) (k bytes : Nat) : Prop where
  ht : P.underlying t = some (.slice T)
  ex : ∃ i z, P.info? T = some i ∧ i.zero = some z ∧ i.size = k ∧ i.bytes = bytes ∧ z.cells.size = k
  pos : 0 < k
theorem elem_of {P : Program} {t T : TypeId} {k bytes : Nat} (ht : P.underlying t = some (.slice T)) {z : Value} (hi : (P.info? T).map (fun i => (i.zero, i.size, i.bytes)) = some (some z, k, bytes)) (hz : z.cells.size = k) (h0 : 0 < k) : Elem P t T k bytes := by
  obtain ⟨i, h1, h2, h3, h4⟩ := info_parts hi
  exact ⟨ht, ⟨i, z, h1, h2, h3, h4, hz⟩, h0⟩
/-- A list of one, just made. -/
theorem Is.one {B : Bs} {x : α} {cs : List Value} {w : World} (hB : B.le w.heap.size) (h : e.R B x cs w) : Is e T B [x] (.slice (some ⟨w.heap.size, 0, none⟩) 1 1) (w.alloc (.cells cs.toArray T)) := by
  have hn : (w.alloc (.cells cs.toArray T)).heap[w.heap.size]? = some (.cells cs.toArray T (0, 0)) := heap_alloc_new w _
  refine ⟨_, 1, rfl, .inr ⟨w.heap.size, 0, rfl, by simp, .inr ⟨⟨_, hn⟩, fun hb => by have := hB.2 _ hb; omega⟩, fun i y hy => ?_⟩⟩
  cases i with
  | zero =>
    simp at hy
    subst hy
    refine ⟨cs, e.stays h ((Below.refl _ _).alloc (Nat.le_refl _) _), fun j u hu => ?_⟩
    simp only [World.cell?, hn]
    simpa using hu
  | succ i => simp at hy
theorem Lies.at {B : Bs} {l : List α} {b off : Nat} {w : World} (h : Lies e T B l b off w) (i : Nat) (hi : i < l.length) : ∃ cs, e.R B l[i] cs w ∧ ∀ j u, cs[j]? = some u → w.cell? ⟨b, off + i * e.k + j, none⟩ = some u := h.2.2 i _ (List.getElem?_eq_getElem hi)
end
noncomputable def sameB {α : Type} (a b : α) : Bool := @decide (a = b) (Classical.propDecidable _)
theorem sameB_yes {α : Type} {a b : α} (h : a = b) : sameB a b = true := @decide_eq_true _ (Classical.propDecidable _) h
theorem sameB_no {α : Type} {a b : α} (h : a ≠ b) : sameB a b = false := @decide_eq_false _ (Classical.propDecidable _) h
theorem sameB_eq {α : Type} {a b : α} (h : sameB a b = true) : a = b := @of_decide_eq_true _ (Classical.propDecidable _) h
theorem sameB_ne {α : Type} {a b : α} (h : sameB a b = false) : a ≠ b := @of_decide_eq_false _ (Classical.propDecidable _) h
theorem take_snoc {α : Type} {l : List α} {i : Nat} (h : i < l.length) : l.take (i + 1) = l.take i ++ [l[i]] := List.take_succ_eq_append_getElem h
end Go.Proofs.Ytmaecknjamnnpaa.Da
