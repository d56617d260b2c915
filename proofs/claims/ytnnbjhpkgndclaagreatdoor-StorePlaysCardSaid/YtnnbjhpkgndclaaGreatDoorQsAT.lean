/- Data in memory, nested as they may be: what a value's cells say. Of no program. -/
import Derived.Test.YtnnbjhpkgndclaaGreatDoorQsZZ
import Derived.Test.YtnnbjhpkgndclaaGreatDoorQsAH
import Derived.Laws.AppendOwn
import Derived.Laws.OwnMore
import Derived.WalkKit
set_option linter.unusedVariables false
namespace Go.Proofs.YtnnbjhpkgndclaaGreatDoor.Da
open Go.RowKit
open Go.Proofs.YtnnbjhpkgndclaaGreatDoor.Rw (nx)
structure Bs where
  lo : Nat
  ex : Nat → Prop
def Bs.le (B : Bs) (n : Nat) : Prop := B.lo ≤ n ∧ ∀ b,B.ex b → b < n
def Bs.of (n : Nat) : Bs := ⟨n,fun _ => False⟩
def Bs.but (B : Bs) (X : Nat → Prop) : Bs := ⟨B.lo,fun b => B.ex b ∨ X b⟩
def Bs.sub (A B : Bs) : Prop := A.lo ≤ B.lo ∧ ∀ b,B.ex b → A.ex b ∨ b < A.lo
structure Keeps (B : Bs) (ts : List TypeId) (w w' : World) : Prop where
  size : w.heap.size ≤ w'.heap.size
  block : ∀ b o,w.heap[b]? = some o → (b < B.lo ∨ ∃ cur t fr,o = .cells cur t fr ∧ t ∈ ts ∧ ¬ B.ex b) → w'.heap[b]? = some o
theorem Keeps.refl (B : Bs) (ts : List TypeId) (w : World) : Keeps B ts w w := ⟨Nat.le_refl _,fun _ _ h _ => h⟩
theorem Keeps.of_below {B : Bs} {ts : List TypeId} {w w' : World} (h : Below w.heap.size w w') : Keeps B ts w w' :=
  ⟨h.size,fun b o hb _ => (h.block b (Array.getElem?_eq_some_iff.1 hb).1).trans hb⟩
theorem Keeps.less {B : Bs} {ts ts' : List TypeId} {w w' : World} (h : Keeps B ts w w') (hs : ∀ t ∈ ts',t ∈ ts) : Keeps B ts' w w' :=
  ⟨h.size,fun b o hb ho => h.block b o hb (ho.imp id fun ⟨cur,t,fr,e,ht,hx⟩ => ⟨cur,t,fr,e,hs t ht,hx⟩)⟩
theorem Keeps.low {B B' : Bs} {ts : List TypeId} {w w' : World} (h : Keeps B' ts w w') (hB : B.sub B') : Keeps B ts w w' :=
  ⟨h.size,fun b o hb ho => h.block b o hb (by
    rcases ho with ho | ⟨cur,t,fr,e,ht,hx⟩
    · exact .inl (Nat.lt_of_lt_of_le ho hB.1)
    · by_cases hl : b < B'.lo
      · exact .inl hl
      · exact .inr ⟨cur,t,fr,e,ht,fun hb' => (hB.2 b hb').elim hx (fun h => hl (Nat.lt_of_lt_of_le h hB.1))⟩)⟩
theorem Keeps.grown {B : Bs} {Bo : Nat} {ts : List TypeId} {T : TypeId} {k n : Nat} {v : Value} {xs : List Value} {w w' : World} (hr : w.ownsRow Bo T k v n xs) (hB : B.le Bo) (hT : T ∉ ts) (hg : w.grownBy w' v.ownBlock) : Keeps B ts w w' := by
  refine ⟨hg.size,fun b o hb ho => (hg.block b (Array.getElem?_eq_some_iff.1 hb).1 fun e => ?_).trans hb⟩
  rcases hr.2 with ⟨rfl,_⟩ | ⟨g,cap,cur,rfl,hbase,hgb,_⟩
  · simp [Value.ownBlock] at e
  · obtain rfl : b = g := by simpa [Value.ownBlock] using e
    rw [hgb] at hb
    rcases ho with ho | ⟨cur',t,fr,rfl,ht,_⟩
    · have := hB.1;omega
    · simp at hb
      exact hT (hb.2.1 ▸ ht)
theorem grown_refl (w : World) (ob : Option Nat) : w.grownBy w ob := ⟨rfl,rfl,rfl,Nat.le_refl _,fun _ _ _ => rfl⟩
theorem grown_trans {a b c : World} {ob : Option Nat} (h : a.grownBy b ob) (k : b.grownBy c ob) : a.grownBy c ob :=
  ⟨k.os.trans h.os,k.tape.trans h.tape,k.output.trans h.output,Nat.le_trans h.size k.size,fun i hi hne => (k.block i (Nat.lt_of_lt_of_le hi h.size) hne).trans (h.block i hi hne)⟩
theorem grown_below {w w' : World} (ob : Option Nat) (h : Below w.heap.size w w') : w.grownBy w' ob := ⟨h.os,h.tape,h.output,h.size,fun i hi _ => h.block i hi⟩
structure Alt (X : Nat → Prop) (w w' : World) : Prop where
  os : w'.os = w.os
  tape : w'.tape = w.tape
  output : w'.output = w.output
  size : w.heap.size ≤ w'.heap.size
  block : ∀ b,b < w.heap.size → ¬ X b → w'.heap[b]? = w.heap[b]?
theorem Alt.grown {X : Nat → Prop} {a w w' : World} {ob : Option Nat} (h : Alt X a w) (hg : w.grownBy w' ob) (ho : ∀ k,ob = some k → a.heap.size ≤ k) : Alt X a w' :=
  ⟨hg.os.trans h.os,hg.tape.trans h.tape,hg.output.trans h.output,Nat.le_trans h.size hg.size,fun b hb hx => (hg.block b (Nat.lt_of_lt_of_le hb h.size) fun e => by have := ho b e.symm;omega).trans (h.block b hb hx)⟩
structure Enc (α : Type) where
  k : Nat
  ts : List TypeId
  R : Bs → α → List Value → World → Prop
  len : ∀ {B x cs w},R B x cs w → cs.length = k
  one : ∀ {B x cs w},R B x cs w → ∀ u ∈ cs,u.oneCell' = true
  keep : ∀ {B x cs w w'},R B x cs w → Keeps B ts w w' → R B x cs w'
  up : ∀ {A B x cs w},A.sub B → R A x cs w → R B x cs w
  now : ∀ {B x cs w X},R B x cs w → (∀ b,X b → w.heap.size ≤ b) → R (B.but X) x cs w
theorem Enc.stays {α : Type} (e : Enc α) {B : Bs} {x : α} {cs : List Value} {w w' : World} (h : e.R B x cs w) (hb : Below w.heap.size w w') : e.R B x cs w' := e.keep h (Keeps.of_below hb)
def Enc.flat {α : Type} (k : Nat) (f : α → List Value) (hl : ∀ x,(f x).length = k) (h1 : ∀ x,∀ u ∈ f x,u.oneCell' = true) : Enc α where
  k := k
  ts := []
  R := fun _ x cs _ => cs = f x
  len := fun h => by rw [h];exact hl _
  one := fun h => by rw [h];exact h1 _
  keep := fun h _ => h
  up := fun _ h => h
  now := fun h _ => h
section
variable {α : Type} (e : Enc α) (T : TypeId)
def Lies (B : Bs) (l : List α) (b off : Nat) (w : World) : Prop :=
  b < w.heap.size ∧ (b < B.lo ∨ (∃ cur,w.heap[b]? = some (.cells cur T (0,0))) ∧ ¬ B.ex b) ∧ ∀ i x,l[i]? = some x → ∃ cs,e.R B x cs w ∧ ∀ j u,cs[j]? = some u → w.cell? ⟨b,off + i * e.k + j,none⟩ = some u
def Is (B : Bs) (l : List α) (v : Value) (w : World) : Prop := ∃ a c,v = .slice a l.length c ∧ (l = [] ∧ (a = none → c = 0) ∨ ∃ b off,a = some ⟨b,off,none⟩ ∧ Lies e T B l b off w)
theorem Lies.keep {B : Bs} {l : List α} {b off : Nat} {w w' : World} (h : Lies e T B l b off w) (hk : Keeps B (T :: e.ts) w w') : Lies e T B l b off w' := by
  obtain ⟨h1,h2,h3⟩ := h
  have hb : w'.heap[b]? = w.heap[b]? := by
    rw [Array.getElem?_eq_getElem h1]
    refine hk.block b _ (Array.getElem?_eq_getElem h1) (h2.imp id fun ⟨⟨cur,e⟩,hx⟩ => ⟨cur,T,(0,0),?_,List.mem_cons_self,hx⟩)
    rw [Array.getElem?_eq_getElem h1] at e
    exact Option.some.inj e
  refine ⟨Nat.lt_of_lt_of_le h1 hk.size,h2.imp id fun ⟨⟨cur,e⟩,hx⟩ => ⟨⟨cur,hb.trans e⟩,hx⟩,fun i x hx => ?_⟩
  obtain ⟨cs,hc,hu⟩ := h3 i x hx
  exact ⟨cs,e.keep hc (hk.less fun t ht => List.mem_cons_of_mem _ ht),fun j u hj => by rw [World.cell?_of_block (w := w) hb];exact hu j u hj⟩
theorem Is.keep {B : Bs} {l : List α} {v : Value} {w w' : World} (h : Is e T B l v w) (hk : Keeps B (T :: e.ts) w w') : Is e T B l v w' := by
  obtain ⟨a,c,hv,h⟩ := h
  exact ⟨a,c,hv,h.imp id fun ⟨b,off,ha,h⟩ => ⟨b,off,ha,h.keep e T hk⟩⟩
theorem Is.stays {B : Bs} {l : List α} {v : Value} {w w' : World} (h : Is e T B l v w) (hb : Below w.heap.size w w') : Is e T B l v w' := h.keep e T (Keeps.of_below hb)
theorem Lies.up {A B : Bs} {l : List α} {b off : Nat} {w : World} (hB : A.sub B) (h : Lies e T A l b off w) : Lies e T B l b off w := by
  obtain ⟨h1,h2,h3⟩ := h
  refine ⟨h1,?_,fun i x hx => ?_⟩
  · rcases h2 with h2 | ⟨h2,hx⟩
    · exact .inl (Nat.lt_of_lt_of_le h2 hB.1)
    · by_cases hl : b < B.lo
      · exact .inl hl
      · exact .inr ⟨h2,fun hb => (hB.2 b hb).elim hx (fun h => hl (Nat.lt_of_lt_of_le h hB.1))⟩
  · obtain ⟨cs,hc,hu⟩ := h3 i x hx
    exact ⟨cs,e.up hB hc,hu⟩
theorem Is.up {A B : Bs} {l : List α} {v : Value} {w : World} (hB : A.sub B) (h : Is e T A l v w) : Is e T B l v w := by
  obtain ⟨a,c,hv,h⟩ := h
  exact ⟨a,c,hv,h.imp id fun ⟨b,off,ha,h⟩ => ⟨b,off,ha,h.up e T hB⟩⟩
theorem Is.now {B : Bs} {l : List α} {v : Value} {w : World} {X : Nat → Prop} (h : Is e T B l v w) (hX : ∀ b,X b → w.heap.size ≤ b) : Is e T (B.but X) l v w := by
  obtain ⟨a,c,hv,h⟩ := h
  refine ⟨a,c,hv,h.imp id fun ⟨b,off,ha,h1,h2,h3⟩ => ⟨b,off,ha,h1,h2.imp id (fun ⟨h,hx⟩ => ⟨h,fun hb => hb.elim hx (fun hb => by have := hX b hb;omega)⟩),fun i x hx => ?_⟩⟩
  obtain ⟨cs,hc,hu⟩ := h3 i x hx
  exact ⟨cs,e.now hc hX,hu⟩
def Enc.slice : Enc (List α) where
  k := 1
  ts := T :: e.ts
  R := fun B l cs w => ∃ v,cs = [v] ∧ Is e T B l v w
  len := fun ⟨v,hc,_⟩ => by rw [hc];rfl
  one := fun ⟨v,hc,a,c,hv,_⟩ u hu => by rw [hc] at hu;simp at hu;subst hu;subst hv;rfl
  keep := fun ⟨v,hc,h⟩ hk => ⟨v,hc,h.keep e T hk⟩
  up := fun hB ⟨v,hc,h⟩ => ⟨v,hc,h.up e T hB⟩
  now := fun ⟨v,hc,h⟩ hX => ⟨v,hc,h.now e T hX⟩
theorem Is.nil (B : Bs) (w : World) : Is e T B [] (.slice none 0 0) w := ⟨none,0,rfl,.inl ⟨rfl,fun _ => rfl⟩⟩
theorem Is.cases {B : Bs} {l : List α} {v : Value} {w : World} (h : Is e T B l v w) : (l = [] ∧ ∃ a c,v = .slice a 0 c) ∨ (l ≠ [] ∧ ∃ b off c,v = .slice (some ⟨b,off,none⟩) l.length c ∧ Lies e T B l b off w) := by
  obtain ⟨a,c,hv,h⟩ := h
  by_cases e : l = []
  · subst e;exact .inl ⟨rfl,a,c,hv⟩
  · rcases h with ⟨h,_⟩ | ⟨b,off,rfl,h⟩
    · exact absurd h e
    · exact .inr ⟨e,b,off,c,hv,h⟩
theorem Is.len {B : Bs} {l : List α} {v : Value} {w : World} (h : Is e T B l v w) : ∃ a c,v = .slice a l.length c := by
  obtain ⟨a,c,hv,_⟩ := h;exact ⟨a,c,hv⟩
def Own (B : Bs) (Bo : Nat) (l : List α) (v : Value) (w : World) : Prop :=
  ∃ css : List (List Value),css.length = l.length ∧ (∀ (i : Nat) (x : α) (cs : List Value),l[i]? = some x → css[i]? = some cs → e.R B x cs w) ∧ w.ownsRow Bo T e.k v l.length css.flatten
theorem flat_at {css : List (List Value)} {k : Nat} (hk : ∀ cs ∈ css,cs.length = k) : ∀ (i : Nat) (cs : List Value),css[i]? = some cs → ∀ j u,cs[j]? = some u → css.flatten[i * k + j]? = some u := by
  induction css with
  | nil => intro i cs h;simp at h
  | cons c css ih =>
    intro i cs h j u hu
    have hc := hk c List.mem_cons_self
    have hj : j < cs.length := by
      rcases Nat.lt_or_ge j cs.length with h | h
      · exact h
      · rw [List.getElem?_eq_none h] at hu;cases hu
    rw [List.flatten_cons]
    cases i with
    | zero =>
      obtain rfl : c = cs := by simpa using h
      rw [Nat.zero_mul,Nat.zero_add,List.getElem?_append_left hj];exact hu
    | succ i =>
      have e : (i + 1) * k + j = c.length + (i * k + j) := by rw [hc,Nat.add_mul,Nat.one_mul];omega
      rw [e,List.getElem?_append_right (by omega),Nat.add_sub_cancel_left]
      exact ih (fun x hx => hk x (List.mem_cons_of_mem _ hx)) i cs (by simpa using h) j u hu
theorem flat_len {css : List (List Value)} {k : Nat} (hk : ∀ cs ∈ css,cs.length = k) : css.flatten.length = css.length * k := by
  induction css with
  | nil => simp
  | cons c css ih => rw [List.flatten_cons,List.length_append,hk c List.mem_cons_self,ih (fun x hx => hk x (List.mem_cons_of_mem _ hx)),List.length_cons,Nat.add_mul,Nat.one_mul,Nat.add_comm]
variable {e T}
theorem Own.lens {B : Bs} {l : List α} {w : World} {css : List (List Value)} (hl : css.length = l.length) (hc : ∀ (i : Nat) (x : α) (cs : List Value),l[i]? = some x → css[i]? = some cs → e.R B x cs w) : ∀ cs ∈ css,cs.length = e.k := by
  intro cs hcs
  obtain ⟨i,hi,rfl⟩ := List.getElem_of_mem hcs
  exact e.len (hc i l[i] _ (List.getElem?_eq_getElem (by omega)) (List.getElem?_eq_getElem hi))
theorem Own.ones {B : Bs} {l : List α} {w : World} {css : List (List Value)} (hl : css.length = l.length) (hc : ∀ (i : Nat) (x : α) (cs : List Value),l[i]? = some x → css[i]? = some cs → e.R B x cs w) : ∀ u ∈ css.flatten,u.oneCell' = true := by
  intro u hu
  obtain ⟨cs,hcs,hu2⟩ := List.mem_flatten.1 hu
  obtain ⟨i,hi,rfl⟩ := List.getElem_of_mem hcs
  exact e.one (hc i l[i] _ (List.getElem?_eq_getElem (by omega)) (List.getElem?_eq_getElem hi)) u hu2
theorem Own.nil (B : Bs) (Bo : Nat) (w : World) : Own e T B Bo [] (.slice none 0 0) w := ⟨[],rfl,by simp,World.ownsRow_nil w Bo _ _⟩
theorem Own.made (B : Bs) (w : World) (Bo : Nat) (hB : Bo ≤ w.heap.size) : Own e T B Bo [] (.slice (some ⟨w.heap.size,0,none⟩) 0 0) (w.alloc (.cells #[] T)) :=
  ⟨[],rfl,by simp,World.ownsRow_made (base := Bo) (e := T) (size := e.k) w #[] 0 hB (by unfold maxLen;omega) (by simp)⟩
theorem Own.is {B : Bs} {Bo : Nat} {l : List α} {v : Value} {w : World} (h0 : 0 < e.k) (hB : B.le Bo) (h : Own e T B Bo l v w) : Is e T B l v w := by
  obtain ⟨css,hl,hc,hr⟩ := h
  rcases hr.2 with ⟨rfl,h1⟩ | ⟨g,cap,cur,rfl,hbo,hg,_,_,_,ht⟩
  · have e1 : l = [] := List.eq_nil_of_length_eq_zero h1
    subst e1
    exact Is.nil e T B w
  · refine ⟨_,cap,rfl,.inr ⟨g,0,rfl,(Array.getElem?_eq_some_iff.1 hg).1,.inr ⟨⟨cur,hg⟩,fun hb => by have := hB.2 g hb;omega⟩,fun i x hx => ?_⟩⟩
    have hi : i < l.length := (List.getElem?_eq_some_iff.1 hx).1
    have hci := List.getElem?_eq_getElem (show i < css.length by omega)
    refine ⟨css[i],hc i x _ hx hci,fun j u hu => ?_⟩
    have hf := flat_at (Own.lens hl hc) i _ hci j u hu
    rw [← ht] at hf
    rw [Nat.zero_add]
    simp only [World.cell?,hg]
    have hlt : i * e.k + j < l.length * e.k := by
      rcases Nat.lt_or_ge (i * e.k + j) (l.length * e.k) with h | h
      · exact h
      · rw [List.getElem?_take,if_neg (by omega)] at hf;cases hf
    rw [List.getElem?_take,if_pos hlt] at hf
    simpa using hf
theorem ownsRow_keep {B : Bs} {Bo : Nat} (hB : B.le Bo) {k n : Nat} {v : Value} {xs : List Value} {w w' : World} (h : w.ownsRow Bo T k v n xs) {ts : List TypeId} (hk : Keeps B (T :: ts) w w') : w'.ownsRow Bo T k v n xs := by
  refine ⟨h.1,?_⟩
  rcases h.2 with h | ⟨g,cap,cur,h1,h2,h3,h4⟩
  · exact .inl h
  · exact .inr ⟨g,cap,cur,h1,h2,hk.block g _ h3 (.inr ⟨cur,T,_,rfl,List.mem_cons_self,fun hb => by have := hB.2 g hb;omega⟩),h4⟩
theorem Own.keep {B : Bs} {Bo : Nat} {l : List α} {v : Value} {w w' : World} (hB : B.le Bo) (h : Own e T B Bo l v w) (hk : Keeps B (T :: e.ts) w w') : Own e T B Bo l v w' := by
  obtain ⟨css,hl,hc,hr⟩ := h
  exact ⟨css,hl,fun i x cs hx hcs => e.keep (hc i x cs hx hcs) (hk.less fun t ht => List.mem_cons_of_mem _ ht),ownsRow_keep hB hr hk⟩
theorem Own.stays {B : Bs} {Bo : Nat} {l : List α} {v : Value} {w w' : World} (h : Own e T B Bo l v w) (hb : Below w.heap.size w w') : Own e T B Bo l v w' := by
  obtain ⟨css,hl,hc,hr⟩ := h
  refine ⟨css,hl,fun i x cs hx hcs => e.stays (hc i x cs hx hcs) hb,hr.1,?_⟩
  rcases hr.2 with h | ⟨g,cap,cur,h1,h2,h3,h4⟩
  · exact .inl h
  · exact .inr ⟨g,cap,cur,h1,h2,(hb.block g (Array.getElem?_eq_some_iff.1 h3).1).trans h3,h4⟩
theorem add_eq (b off j : Nat) : (⟨b,off,none⟩ : Addr).add j = ⟨b,off + j,none⟩ := by
  unfold Addr.add
  split
  · rename_i h;rw [h];rfl
  · rfl
theorem flat_inv {css : List (List Value)} {k : Nat} (hk : ∀ cs ∈ css,cs.length = k) : ∀ (j : Nat) (u : Value),css.flatten[j]? = some u → ∃ i cs j',css[i]? = some cs ∧ cs[j']? = some u ∧ j = i * k + j' := by
  induction css with
  | nil => intro j u h;simp at h
  | cons c css ih =>
    intro j u h
    rw [List.flatten_cons] at h
    have hc := hk c List.mem_cons_self
    by_cases hj : j < k
    · rw [List.getElem?_append_left (by rw [hc];exact hj)] at h
      exact ⟨0,c,j,rfl,h,by omega⟩
    · rw [List.getElem?_append_right (by rw [hc];omega),hc] at h
      obtain ⟨i,cs,j',h1,h2,h3⟩ := ih (fun x hx => hk x (List.mem_cons_of_mem _ hx)) _ _ h
      exact ⟨i + 1,cs,j',by simpa using h1,h2,by rw [Nat.add_mul,Nat.one_mul];omega⟩
theorem Is.src {B : Bs} {l : List α} {v : Value} {w : World} (h : Is e T B l v w) : (l = [] ∧ v = .slice none 0 0) ∨ ∃ (ad : Addr) (c : Nat) (css : List (List Value)),v = .slice (some ad) l.length c ∧ css.length = l.length ∧ (∀ (i : Nat) (x : α) (cs : List Value),l[i]? = some x → css[i]? = some cs → e.R B x cs w) ∧ ∀ j u,css.flatten[j]? = some u → w.cell? (ad.add j) = some u := by
  classical
  obtain ⟨a,c,rfl,h⟩ := h
  rcases h with ⟨rfl,h⟩ | ⟨b,off,rfl,h1,h2,h3⟩
  · cases a with
    | none => rw [h rfl];exact .inl ⟨rfl,rfl⟩
    | some ad => exact .inr ⟨ad,c,[],rfl,rfl,by simp,by simp⟩
  · right
    have hg : ∀ i,∃ cs : List Value,∀ (hi : i < l.length),e.R B l[i] cs w ∧ ∀ j u,cs[j]? = some u → w.cell? ⟨b,off + i * e.k + j,none⟩ = some u := fun i => by
      by_cases hi : i < l.length
      · obtain ⟨cs,hc,hu⟩ := h3 i l[i] (List.getElem?_eq_getElem hi)
        exact ⟨cs,fun _ => ⟨hc,hu⟩⟩
      · exact ⟨[],fun h => absurd h hi⟩
    let f := fun i => Classical.choose (hg i)
    have hf : ∀ i (hi : i < l.length),e.R B l[i] (f i) w ∧ ∀ j u,(f i)[j]? = some u → w.cell? ⟨b,off + i * e.k + j,none⟩ = some u := fun i => Classical.choose_spec (hg i)
    have hat : ∀ i,i < l.length → ((List.range l.length).map f)[i]? = some (f i) := fun i hi => by simp [hi]
    have hR : ∀ (i : Nat) (x : α) (cs : List Value),l[i]? = some x → ((List.range l.length).map f)[i]? = some cs → e.R B x cs w := fun i x cs hx hcs => by
      obtain ⟨hi,rfl⟩ := List.getElem?_eq_some_iff.1 hx
      rw [hat i hi] at hcs
      obtain rfl := Option.some.inj hcs
      exact (hf i hi).1
    refine ⟨⟨b,off,none⟩,c,(List.range l.length).map f,rfl,by simp,hR,fun j u hu => ?_⟩
    have hlen : ∀ cs ∈ (List.range l.length).map f,cs.length = e.k := Own.lens (by simp) hR
    obtain ⟨i,cs,j',h4,h5,rfl⟩ := flat_inv hlen j u hu
    have hi : i < l.length := by
      have := (List.getElem?_eq_some_iff.1 h4).1
      simpa using this
    rw [hat i hi] at h4
    obtain rfl := Option.some.inj h4
    rw [add_eq,← Nat.add_assoc]
    exact (hf i hi).2 j' u h5
theorem Own.app {B : Bs} {Bo : Nat} {l m : List α} {v v' : Value} {w w' : World} {css dss : List (List Value)} (hT : T ∉ e.ts) (hB : B.le Bo) (hl : css.length = l.length) (hc : ∀ (i : Nat) (x : α) (cs : List Value),l[i]? = some x → css[i]? = some cs → e.R B x cs w) (hr : w.ownsRow Bo T e.k v l.length css.flatten)
    (hl2 : dss.length = m.length) (hd : ∀ (i : Nat) (x : α) (cs : List Value),m[i]? = some x → dss[i]? = some cs → e.R B x cs w) (hr' : w'.ownsRow Bo T e.k v' (l.length + m.length) (css.flatten ++ dss.flatten)) (hg : w.grownBy w' v.ownBlock) : Own e T B Bo (l ++ m) v' w' := by
  have hk : Keeps B e.ts w w' := Keeps.grown hr hB hT hg
  refine ⟨css ++ dss,by simp [hl,hl2],fun i x cs hx hcs => e.keep ?_ hk,by rw [List.flatten_append,List.length_append];exact hr'⟩
  rcases Nat.lt_or_ge i l.length with hi | hi
  · rw [List.getElem?_append_left hi] at hx
    rw [List.getElem?_append_left (by omega)] at hcs
    exact hc i x cs hx hcs
  · rw [List.getElem?_append_right hi] at hx
    rw [List.getElem?_append_right (by omega),hl] at hcs
    exact hd _ x cs hx hcs
structure Elem (P : Program) (t T : TypeId) (k bytes : Nat) : Prop where
  ht : P.underlying t = some (.slice T)
  ex : ∃ i z,P.info? T = some i ∧ i.zero = some z ∧ i.size = k ∧ i.bytes = bytes ∧ z.cells.size = k
  pos : 0 < k
theorem elem_of {P : Program} {t T : TypeId} {k bytes : Nat} (ht : P.underlying t = some (.slice T)) {z : Value} (hi : (P.info? T).map (fun i => (i.zero,i.size,i.bytes)) = some (some z,k,bytes)) (hz : z.cells.size = k) (h0 : 0 < k) : Elem P t T k bytes := by
  obtain ⟨i,h1,h2,h3,h4⟩ := info_parts hi
  exact ⟨ht,⟨i,z,h1,h2,h3,h4,hz⟩,h0⟩
theorem Is.one {B : Bs} {x : α} {cs : List Value} {w : World} (hB : B.le w.heap.size) (h : e.R B x cs w) : Is e T B [x] (.slice (some ⟨w.heap.size,0,none⟩) 1 1) (w.alloc (.cells cs.toArray T)) := by
  have hn : (w.alloc (.cells cs.toArray T)).heap[w.heap.size]? = some (.cells cs.toArray T (0,0)) := heap_alloc_new w _
  refine ⟨_,1,rfl,.inr ⟨w.heap.size,0,rfl,by simp,.inr ⟨⟨_,hn⟩,fun hb => by have := hB.2 _ hb;omega⟩,fun i y hy => ?_⟩⟩
  cases i with
  | zero =>
    simp at hy
    subst hy
    refine ⟨cs,e.stays h ((Below.refl _ _).alloc (Nat.le_refl _) _),fun j u hu => ?_⟩
    simp only [World.cell?,hn]
    simpa using hu
  | succ i => simp at hy
theorem Lies.at {B : Bs} {l : List α} {b off : Nat} {w : World} (h : Lies e T B l b off w) (i : Nat) (hi : i < l.length) : ∃ cs,e.R B l[i] cs w ∧ ∀ j u,cs[j]? = some u → w.cell? ⟨b,off + i * e.k + j,none⟩ = some u := h.2.2 i _ (List.getElem?_eq_getElem hi)
end
theorem take_snoc {α : Type} {l : List α} {i : Nat} (h : i < l.length) : l.take (i + 1) = l.take i ++ [l[i]] := List.take_succ_eq_append_getElem h
end Go.Proofs.YtnnbjhpkgndclaaGreatDoor.Da
namespace Go.Proofs.YtnnbjhpkgndclaaGreatDoor.Da
open Go.RowKit
def appRun (P : Program) (t ty : TypeId) (v x : Value) (w : World) : Result Value := (Builtin.append_ #[t,t] ty #[v,x]).run P w
section
variable {P : Program} (ρ : Operand → Value) (dst : Option Tmp) (ty : TypeId) (pos : String) (after : Array Edge) (guard : Option (Nat × Bool)) (w : World)
theorem exec_append (s x : Operand) (t : TypeId) :
    (execOp ρ { dst,op := .call { callee := .builtin .append,args := #[s,x],argTypes := #[t,t] },type := ty,pos,after,guard }).run P w = (appRun P t ty (ρ s) (ρ x) w).andThen fun v w' => .ok (.value v) w' := by
  unfold execOp appRun
  simp only [resolve,invoke,builtin,Sem.run_bind,Sem.run_pure,List.map_toArray,List.map_cons,List.map_nil,Result.andThen_ok]
end
attribute [go_sem ↓] exec_append
section
variable {α : Type} {e : Enc α} {T : TypeId}
theorem Own.append {P : Program} {t : TypeId} {bytes : Nat} (E : Elem P t T e.k bytes) (ty : TypeId) (hT : T ∉ e.ts) {B : Bs} {Bo : Nat} {l m : List α} {v x : Value} {w : World} (hB : B.le Bo) (hBo : Bo ≤ w.heap.size) (h : Own e T B Bo l v w) (hx : Is e T B m x w) (h63 : l.length + m.length ≤ 1000000000) (hby : bytes ≤ 100000) :
    ∃ v' w',appRun P t ty v x w = .ok v' w' ∧ Own e T B Bo (l ++ m) v' w' ∧ w.grownBy w' v.ownBlock ∧ (∀ n w0,n ≤ Bo → Below n w0 w → Below n w0 w') ∧ ∀ ts,T ∉ ts → Keeps B ts w w' := by
  obtain ⟨i,z,hi,hz,hs,hb,hzs⟩ := E.ex
  obtain ⟨css,hl,hc,hr⟩ := h
  have hbl : ∀ {w' : World},w.grownBy w' v.ownBlock → ∀ n w0,n ≤ Bo → Below n w0 w → Below n w0 w' := fun hg n w0 hn hb => hb.grown hg (Nat.le_trans hn hBo) (fun k hk => Nat.le_trans hn (hr.lt k hk).1)
  rcases hx.src with ⟨rfl,rfl⟩ | ⟨ad,c,dss,rfl,hdl,hd,hu⟩
  · exact ⟨v,w,run_append_owned_none (P := P) (w := w) Bo t ty T i e.k E.ht hi v l.length css.flatten hr,by rw [List.append_nil];exact ⟨css,hl,hc,hr⟩,⟨rfl,rfl,rfl,Nat.le_refl _,fun _ _ _ => rfl⟩,fun _ _ _ h => h,fun ts _ => Keeps.refl _ _ _⟩
  · have hlen : dss.flatten.length = m.length * e.k := by rw [flat_len (Own.lens hdl hd),hdl]
    have hbytes : (l.length + m.length) * bytes ≤ 140737488355328 := Nat.le_trans (Nat.mul_le_mul h63 hby) (by decide)
    obtain ⟨v',w',h1,h2,h3,_⟩ := run_append_own (P := P) w Bo t ty T i z e.k bytes E.ht hi hz hs hb hzs E.pos v l.length css.flatten hr ad m.length c dss.flatten hlen hu (Own.ones hdl hd) (by unfold maxLen;omega) hbytes hBo
    exact ⟨v',w',h1,Own.app hT hB hl hc hr hdl hd h2 h3,h3,hbl h3,fun ts ht => Keeps.grown hr hB ht h3⟩
end
def capOk : Value → Prop
  | .slice _ n c => n ≤ c
  | _ => False
def cutHi (s k : Nat) : Value → Value
  | .slice a _ c => .slice (if c = 0 then a else a.map (·.add (0 * s))) (k - 0) (c - 0)
  | v => v
theorem add_at (b off j : Nat) : (⟨b,off,none⟩ : Addr).add j = ⟨b,off + j,none⟩ := by
  unfold Addr.add
  split
  · rename_i h;rw [h];rfl
  · rfl
section
variable {α : Type} {e : Enc α} {T : TypeId}
theorem Own.cap {B : Bs} {Bo : Nat} {l : List α} {v : Value} {w : World} (h : Own e T B Bo l v w) : capOk v := by
  obtain ⟨css,_,_,_,hr⟩ := h
  rcases hr with ⟨rfl,_⟩ | ⟨g,c,cur,rfl,_,_,hc,_⟩
  · exact Nat.le_refl 0
  · exact hc
theorem Is.cutHi {B : Bs} {l : List α} {v : Value} {w : World} (h : Is e T B l v w) {k : Nat} (hk : k ≤ l.length) : Is e T B (l.take k) (cutHi e.k k v) w := by
  obtain ⟨a,c,rfl,h⟩ := h
  have hl : (l.take k).length = k := by rw [List.length_take];omega
  refine ⟨_,_,by unfold Da.cutHi;rw [hl,Nat.sub_zero],?_⟩
  rcases h with ⟨rfl,hc⟩ | ⟨b,off,rfl,h1,h2,h3⟩
  · left
    refine ⟨by simp,fun ha => ?_⟩
    cases a with
    | none => simp [hc rfl]
    | some a => split at ha <;> simp at ha
  · right
    refine ⟨b,off,?_,h1,h2,fun i x hx => ?_⟩
    · split
      · rfl
      · simp [add_at]
    · rw [List.getElem?_take] at hx
      split at hx
      · exact h3 i x hx
      · cases hx
theorem capOk_len {B : Bs} {l : List α} {v : Value} {w : World} (h : Is e T B l v w) (hc : capOk v) : ∃ a c,v = .slice a l.length c ∧ l.length ≤ c := by
  obtain ⟨a,c,rfl,_⟩ := h
  exact ⟨a,c,rfl,hc⟩
variable {P : Program} {t : TypeId} {k bytes : Nat} (ρ : Operand → Value) (dst : Option Tmp) (ty : TypeId) (pos : String) (after : Array Edge) (guard : Option (Nat × Bool)) (w : World)
theorem exec_cutHi (E : Elem P t T k bytes) (x y : Operand) {a : Option Addr} {n c m : Nat} (hx : ρ x = .slice a n c) (hy : ρ y = .int .i64 (m : Nat)) (hm : m ≤ c) :
    (execOp ρ { dst,op := .slice t x none (some y) none,type := ty,pos,after,guard }).run P w = .ok (.value (Da.cutHi k m (.slice a n c))) w := by
  obtain ⟨i,z,hi,hz,hs,hb,hzs⟩ := E.ex
  have hm0 : (0 : Int) ≤ m := by omega
  simp [execOp,hx,hy,Instr.sliceAt,Instr.slice,Instr.sliceBounds,Instr.sliceBound,asIntOf,run_underlying E.ht,sizeOf,typeInfo,hi,hm0,Da.cutHi]
  intro hh;omega
def natOf : Value → Nat
  | .int _ i => i.toNat
  | _ => 0
def hiOk : Value → Value → Bool
  | .slice _ _ c,.int .i64 i => decide (0 ≤ i ∧ i ≤ c)
  | _,_ => false
def loOk : Value → Value → Bool
  | .slice _ n _,.int .i64 i => decide (0 ≤ i ∧ i ≤ n)
  | _,_ => false
theorem hiOk_at (a : Option Addr) (n c m : Nat) : hiOk (.slice a n c) (.int .i64 (m : Nat)) = decide (m ≤ c) := by simp [hiOk]
theorem loOk_at (a : Option Addr) (n c m : Nat) : loOk (.slice a n c) (.int .i64 (m : Nat)) = decide (m ≤ n) := by simp [loOk]
theorem natOf_at (k : IntKind) (m : Nat) : natOf (.int k (m : Nat)) = m := rfl
theorem exec_hi (E : Elem P t T k bytes) (x y : Operand) (h : hiOk (ρ x) (ρ y) = true) :
    (execOp ρ { dst,op := .slice t x none (some y) none,type := ty,pos,after,guard }).run P w = .ok (.value (Da.cutHi k (natOf (ρ y)) (ρ x))) w := by
  generalize hx : ρ x = X at h ⊢
  generalize hy : ρ y = Y at h ⊢
  match X,Y,h with
  | .slice a n c,.int .i64 i,h =>
    have h := of_decide_eq_true h
    obtain ⟨m,rfl⟩ : ∃ m : Nat,i = m := ⟨i.toNat,by omega⟩
    exact exec_cutHi (m := m) ρ dst ty pos after guard w E x y hx hy (by omega)
end
attribute [go_sem] hiOk_at loOk_at natOf_at
end Go.Proofs.YtnnbjhpkgndclaaGreatDoor.Da
