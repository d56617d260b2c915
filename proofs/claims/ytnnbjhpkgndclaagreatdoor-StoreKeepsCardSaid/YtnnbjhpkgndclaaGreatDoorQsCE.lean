/- Of the statements of layer 17: lists of tables. -/
import Derived.Test.YtnnbjhpkgndclaaGreatDoorQsZZ
import Derived.Test.YtnnbjhpkgndclaaGreatDoorQsCD
import Derived.Laws.Append
set_option linter.unusedVariables false
namespace Go.Proofs.YtnnbjhpkgndclaaGreatDoor.St
open Go.RowKit
open Go.Proofs.YtnnbjhpkgndclaaGreatDoor.Rw
open Go.Proofs.YtnnbjhpkgndclaaGreatDoor.Da
open Go.Proofs.YtnnbjhpkgndclaaGreatDoor.Ro
open Go.Proofs.YtnnbjhpkgndclaaGreatDoor.Bv
open Go.Proofs.YtnnbjhpkgndclaaGreatDoor.Rc (Ins ci zeroI okI)
open Go.Proofs.YtnnbjhpkgndclaaGreatDoor.Dk (Ds DV)
def eM : Enc (List Ins) := Enc.slice eI 44
abbrev ML (n : Nat) (l : List (List Ins)) (v : Value) (w : World) : Prop := Is eM 29 (Bs.of n) l v w
theorem ML.stays {n : Nat} {l : List (List Ins)} {v : Value} {w w' : World} (h : ML n l v w) (k : Below w.heap.size w w') : ML n l v w' := Is.stays eM 29 h k
theorem ml_row {q b : Nat} {l : List (List Ins)} {v : Value} {w : World} {cur : Array Value} {t : TypeId} (c : Array Value) (h : ML q l v w) (hx : Bx w b cur t) (h1 : t ≠ 29) (h2 : t ≠ 44) (hq : q ≤ b) : ML q l v (w.setRow b c) :=
  Is.keep eM 29 h (Dk.keeps_setRow c hx (fun hm => by
    have hm : t ∈ [29,44] := hm
    simp only [List.mem_cons,List.not_mem_nil,or_false] at hm
    exact hm.elim h1 h2) hq)
theorem atM {q : Nat} {l : List (List Ins)} {b off : Nat} {w : World} (h : Lies eM 29 (Bs.of q) l b off w) (i : Nat) (hi : i < l.length) : ∃ x,w.cell? ⟨b,off + i,none⟩ = some x ∧ TI q l[i] x w := by
  obtain ⟨cs,⟨x,rfl,hx⟩,hu⟩ := h.at i hi
  have := hu 0 x rfl
  exact ⟨x,by simpa [eM,Enc.slice] using this,hx⟩
theorem infoM : (Tryz.prog.info? 29).map (fun i => (i.zero,i.size,i.bytes)) = some (some (.slice none 0 0),1,24) := by kernel_rfl
theorem fillM1 (a : Option Addr) (n c : Nat) (w : World) : (Instr.buildSlice 64 1 #[(0,.slice a n c)]).run Tryz.prog w = .ok (.slice (some ⟨w.heap.size,0,none⟩) 1 1) (w.alloc (.cells #[.slice a n c] 29)) := by
  obtain ⟨k,h1,h2,h3,h4⟩ := info_parts infoM
  exact run_buildSlice w 64 29 1 _ #[.slice a n c] k _ Tryz.underlying64 h1 h2 (by rw [h3];decide) (by rw [h3];decide) (by rw [h3];kernel_rfl)
theorem fillM2 (a : Option Addr) (n c : Nat) (a' : Option Addr) (n' c' : Nat) (w : World) : (Instr.buildSlice 64 2 #[(0,.slice a n c),(1,.slice a' n' c')]).run Tryz.prog w = .ok (.slice (some ⟨w.heap.size,0,none⟩) 2 2) (w.alloc (.cells #[.slice a n c,.slice a' n' c'] 29)) := by
  obtain ⟨k,h1,h2,h3,h4⟩ := info_parts infoM
  exact run_buildSlice w 64 29 2 _ #[.slice a n c,.slice a' n' c'] k _ Tryz.underlying64 h1 h2 (by rw [h3];decide) (by rw [h3];decide) (by rw [h3];kernel_rfl)
attribute [go_sem] fillM1 fillM2
theorem ml_one {q : Nat} {t : List Ins} {v : Value} {w : World} (h : TI q t v w) (hq : q ≤ w.heap.size) : ML q [t] (.slice (some ⟨w.heap.size,0,none⟩) 1 1) (w.alloc (.cells #[v] 29)) :=
  Is.one (e := eM) (T := 29) (cs := [v]) ⟨hq,fun _ h => False.elim h⟩ ⟨v,rfl,h⟩
theorem app_may {q g s : Nat} {t u x : List Ins} {a b c : Value} {w : World} (hq : q ≤ w.heap.size) (hg : Bx w g #[a] 29) (hs : Bx w s #[b,c] 29) (ha : TI q t a w) (hb : TI q u b w) (hc : TI q x c w) :
    ∃ k w',appRun Tryz.prog 64 64 (.slice (some ⟨g,0,none⟩) 1 1) (.slice (some ⟨s,0,none⟩) 2 2) w = .ok (.slice (some ⟨w.heap.size,0,none⟩) 3 k) w' ∧ Below w.heap.size w w' ∧ ML q [t,u,x] (.slice (some ⟨w.heap.size,0,none⟩) 3 k) w' := by
  obtain ⟨i,h1,h2,h3,h4⟩ := info_parts infoM
  have key := run_append_grow (P := Tryz.prog) (w := w) 64 64 29 i (.slice none 0 0) Tryz.underlying64 h1 h2 ⟨g,0,none⟩ 1 1 [a] (by rw [h3];rfl)
    (fun j v hv => by
      rw [Dk.add_eq,Nat.zero_add,hg.cell]
      simpa using hv) ⟨s,0,none⟩ 2 2 [b,c] (by rw [h3];rfl)
    (fun j v hv => by
      rw [Dk.add_eq,Nat.zero_add,hs.cell]
      simpa using hv) (by decide) (by decide) (by rw [h4];decide)
  have hbl : Below w.heap.size w (w.drew.alloc (.cells ([a].toArray ++ [b,c].toArray ++ Builtin.zeroCells (Value.slice none 0 0).cells (grownCap w (1 + 2) 1 29 - (1 + 2))) 29)) := ((Below.refl _ _).drew).alloc (Nat.le_refl _) _
  refine ⟨_,_,key,hbl,?_⟩
  have hn := heap_alloc_new w.drew (.cells ([a].toArray ++ [b,c].toArray ++ Builtin.zeroCells (Value.slice none 0 0).cells (grownCap w (1 + 2) 1 29 - (1 + 2))) 29)
  have hn' : (w.drew.alloc (.cells ([a].toArray ++ [b,c].toArray ++ Builtin.zeroCells (Value.slice none 0 0).cells (grownCap w (1 + 2) 1 29 - (1 + 2))) 29)).heap[w.heap.size]? = some (.cells ([a].toArray ++ [b,c].toArray ++ Builtin.zeroCells (Value.slice none 0 0).cells (grownCap w (1 + 2) 1 29 - (1 + 2))) 29 (0,0)) := hn
  obtain ⟨W,hW⟩ : ∃ W,w.drew.alloc (.cells ([a].toArray ++ [b,c].toArray ++ Builtin.zeroCells (Value.slice none 0 0).cells (grownCap w (1 + 2) 1 29 - (1 + 2))) 29) = W := ⟨_,rfl⟩
  rw [hW] at hn' hbl ⊢
  obtain ⟨Z,hZ⟩ : ∃ Z,Builtin.zeroCells (Value.slice none 0 0).cells (grownCap w (1 + 2) 1 29 - (1 + 2)) = Z := ⟨_,rfl⟩
  rw [hZ] at hn'
  have hcell : ∀ (j : Nat) v,[a,b,c][j]? = some v → W.cell? ⟨w.heap.size,j,none⟩ = some v := fun j v hv => by
    simp only [World.cell?]
    rw [hn']
    show ([a].toArray ++ [b,c].toArray ++ Z)[j]? = some v
    match j,hv with
    | 0,hv =>
      rw [Array.getElem?_append_left (by show 0 < 3;decide)]
      exact hv
    | 1,hv =>
      rw [Array.getElem?_append_left (by show 1 < 3;decide)]
      exact hv
    | 2,hv =>
      rw [Array.getElem?_append_left (by show 2 < 3;decide)]
      exact hv
    | j + 3,hv => simp at hv
  refine ⟨some ⟨w.heap.size,0,none⟩,_,rfl,.inr ⟨w.heap.size,0,rfl,(Array.getElem?_eq_some_iff.1 hn').1,.inr ⟨⟨_,hn'⟩,fun h => False.elim h⟩,fun i y hy => ?_⟩⟩
  match i,hy with
  | 0,hy =>
    obtain rfl : t = y := by simpa using hy
    exact ⟨[a],⟨a,rfl,ha.stays hbl⟩,fun j v hv => by
      cases j with
      | zero => exact hcell 0 v hv
      | succ j => simp at hv⟩
  | 1,hy =>
    obtain rfl : u = y := by simpa using hy
    exact ⟨[b],⟨b,rfl,hb.stays hbl⟩,fun j v hv => by
      cases j with
      | zero => exact hcell 1 v hv
      | succ j => simp at hv⟩
  | 2,hy =>
    obtain rfl : x = y := by simpa using hy
    exact ⟨[c],⟨c,rfl,hc.stays hbl⟩,fun j v hv => by
      cases j with
      | zero => exact hcell 2 v hv
      | succ j => simp at hv⟩
  | i + 3,hy => simp at hy
section
variable (ρ : Operand → Value) (dst : Option Tmp) (ty : TypeId) (pos : String) (after : Array Edge) (guard : Option (Nat × Bool)) (w : World)
theorem storeMidD (p x : Operand) (h : thereOf w (ρ p) 6) (hs : (ρ x).cells.size = 6) (h1 : oneAll (ρ x) = true) (ha : ρ x = .agg (ρ x).cells) : (execOp ρ { dst,op := .store 27 p x,type := ty,pos,after,guard }).run Tryz.prog w = .ok .skip (putMid w (ρ p) (ρ x).cells) :=
  storeMid (by kernel_rfl) ρ dst ty pos after guard w p x h hs h1 ha
end
attribute [go_sem ↓] storeMidD
theorem ti_cells {q b : Nat} {l : List Ins} {v : Value} {t : TypeId} (ht : t ≠ 44) (hq : q ≤ b) : ∀ (vs : List Value) (o : Nat) (w : World) (cur : Array Value),TI q l v w → Bx w b cur t → TI q l v (w.setCells b o vs)
  | [],_,_,_,h,_ => h
  | x :: r,o,w,cur,h,hx => ti_cells ht hq r (o + 1) _ _ (Is.keep eI 44 h (Dk.keeps_setCell o x hx (fun hm => ht (by simpa [eI,Ro.Flat.enc,Enc.flat] using hm)) hq)) (hx.set o x)
theorem dv_cells {q b : Nat} {d : Ds} {v : Value} {t : TypeId} (ht : t ≠ 82) (hq : q ≤ b) : ∀ (vs : List Value) (o : Nat) (w : World) (cur : Array Value),DV q d v w → Bx w b cur t → DV q d v (w.setCells b o vs)
  | [],_,_,_,h,_ => h
  | x :: r,o,w,cur,⟨k,e,h1,h2⟩,hx => dv_cells ht hq r (o + 1) _ _ ⟨k,e,h1.keep (Dk.keeps_setCell o x hx (by simpa using ht) hq),h2⟩ (hx.set o x)
theorem over_kC {cs c2 : Array Value} (h : cs.size = 6) (h2 : c2.size = 6) (tv : Value) (z g : Int) : over (kC cs tv z g) 0 c2.toList = kC c2 tv z g := by
  obtain ⟨a,b,c,d,e,f,rfl⟩ := six_of h
  obtain ⟨a',b',c',d',e',f',rfl⟩ := six_of h2
  simp [over,kC]
end Go.Proofs.YtnnbjhpkgndclaaGreatDoor.St
