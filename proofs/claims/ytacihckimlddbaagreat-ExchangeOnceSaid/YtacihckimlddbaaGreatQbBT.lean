/- Levels that came in, as a list of lists. -/
import Derived.Test.YtacihckimlddbaaGreatQbZZ
import Derived.Test.YtacihckimlddbaaGreatQbAG
import Derived.Deep.Slices
import Derived.Deep.Fields
import Derived.ChangeSame
import Derived.OpenShut
import Derived.Test.YtacihckimlddbaaGreatQbBR
set_option linter.unusedVariables false
set_option maxRecDepth 16000
set_option maxHeartbeats 32000000
namespace Go.Proofs.YtacihckimlddbaaGreat.Le
open Go.RowKit
open Go.ChangeShapes Go.WideShapes Go.Deep
open Rw
open Da
theorem cellsI : Tryz.prog.cellsOf 3=1:=by kernel_rfl
theorem cell_block {w : World} {p : Addr} {v : Value} (h : w.cell? p=some v) : p.block<w.heap.size:=by
 apply Nat.lt_of_not_le
 intro hc
 have : w.heap[p.block]?=none:=Array.getElem?_eq_none hc
 unfold World.cell? at h
 simp [this] at h
theorem is_of {α : Type} [Inhabited α] (e : Enc α) (T : TypeId) (h0 : 0<e.k) (w : World) (a : Addr) (len c : Nat) (good : α→Prop)
  (h : ∀ i,i<len→∃ x cs,good x∧e.R (Bs.of w.heap.size) x cs w∧∀ j u,cs[j]?=some u→w.cell? ((a.add (i*e.k)).add j)=some u) : ∃ l,Is e T (Bs.of w.heap.size) l (.slice (some a) len c) w∧l.length=len∧∀ x∈l,good x:=by
 classical
 have hg : ∀ i,∃ x,i<len→good x∧∃ cs,e.R (Bs.of w.heap.size) x cs w∧∀ j u,cs[j]?=some u→w.cell? ((a.add (i*e.k)).add j)=some u:=fun i=>by
  by_cases hi : i<len
  ·obtain ⟨x,cs,h1,h2,h3⟩:=h i hi;exact ⟨x,fun _=>⟨h1,cs,h2,h3⟩⟩
  ·exact ⟨default,fun e=>absurd e hi⟩
 let f:=fun i=>Classical.choose (hg i)
 have hf : ∀ i,i<len→good (f i)∧∃ cs,e.R (Bs.of w.heap.size) (f i) cs w∧∀ j u,cs[j]?=some u→w.cell? ((a.add (i*e.k)).add j)=some u:=fun i=>Classical.choose_spec (hg i)
 have hlen : ((List.range len).map f).length=len:=by simp
 refine ⟨(List.range len).map f,⟨some a,c,by rw [hlen],?_⟩,hlen,fun x hx=>?_⟩
 ·by_cases e0 : len=0
  ·left;subst e0;exact ⟨rfl,fun e=>by cases e⟩
  ·right
   obtain ⟨_,cs,hR,hu⟩:=hf 0 (by omega)
   have h1 : 0<cs.length:=by rw [e.len hR];exact h0
   have h2:=hu 0 _ (List.getElem?_eq_getElem h1)
   have h3:=World.cell?_spot h2
   obtain ⟨b,off,spot⟩:=a
   obtain rfl : spot=none:=by simpa [Addr.add] using h3
   have h4:=cell_block h2
   rw [add_eq,add_eq] at h4
   refine ⟨b,off,rfl,h4,.inl h4,fun i x hx=>?_⟩
   have hi : i<len:=by
    rcases Nat.lt_or_ge i len with h | h
    ·exact h
    ·rw [List.getElem?_eq_none (by rw [hlen];exact h)] at hx;cases hx
   have e2 : f i=x:=by simpa [hi] using hx
   subst e2
   obtain ⟨_,ds,hR2,hu2⟩:=hf i hi
   refine ⟨ds,hR2,fun j u hj=>?_⟩
   have:=hu2 j u hj
   rwa [add_eq,add_eq] at this
 ·obtain ⟨i,hi,rfl⟩:=List.mem_map.1 hx
  exact (hf i (List.mem_range.1 hi)).1
theorem one_of {H : Type} {en : TypeId × Value→H} {w : World} {base n : Nat} {sp : Nat→Bool} {held : Bool} {cs : List Value} {y : DataW H × List MemPlace} (j : Nat)
  (h : DataW.trod en Tryz.prog w base sp held n 3 ((cs.drop j).take 1)=some y) : ∃ x,cs[j]?=some (.int .i64 x)∧(Lit.int .i64 x).wf=true:=by
 obtain ⟨x,e,_,hw⟩:=DataW.trod_int Tryz.underlying3 h
 refine ⟨x,?_,hw⟩
 have e2 : ((cs.drop j).take 1)[0]?=some (.int .i64 x):=by rw [e];rfl
 simpa using e2
theorem fld {H : Type} {en : TypeId × Value→H} {w : World} {base n o k : Nat} {sp : Nat→Bool} {held : Bool} {t : TypeId} {cs : List Value} {y : DataW H × List MemPlace} {f : Field} (ht : f.type=t) (ho : f.offset=o) (hk : Tryz.prog.cellsOf t=k)
  (h : DataW.trod en Tryz.prog w base sp held n f.type ((cs.drop f.offset).take (Tryz.prog.cellsOf f.type))=some y) : DataW.trod en Tryz.prog w base sp held n t ((cs.drop o).take k)=some y:=by
 subst ht ho hk;exact h
end Go.Proofs.YtacihckimlddbaaGreat.Le
namespace Go.Proofs.YtacihckimlddbaaGreat.Ex
open Go.RowKit
open Go.ChangeShapes Go.WideShapes Go.Deep
open Rw
open Da
open Le (is_of fld one_of cellsI)
open Cm (fc fc_at v9)
theorem cellsC9 : Tryz.prog.cellsOf 35=9:=by kernel_rfl
def wfCs (l : List Cd) : Prop:=l.length≤maxLen∧∀ c∈l,Nine c
theorem open_cmds {H : Type} {en : TypeId × Value→H} {w : World} {base fuel : Nat} {sp : Nat→Bool} {held : Bool} {a : Option Addr} {n c : Nat} {x : DataW H × List MemPlace}
  (h : DataW.trod en Tryz.prog w base sp held fuel 22 (Value.slice a n c).cells.toList=some x) : ∃ l,CL (Bs.of w.heap.size) l (.slice a n c) w∧wfCs l:=by
 rcases open_slice Tryz.underlying22 h with ⟨hcs,_⟩ | ⟨ad,len,cap,m,n',D,Pl,hcs,_,hl,hcap,hm,_,hi⟩
 ·simp [Value.cells] at hcs
  obtain ⟨rfl,rfl,rfl⟩:=hcs
  exact ⟨[],Is.nil _ _ _ _,Nat.zero_le _,by simp⟩
 ·simp [Value.cells] at hcs
  obtain ⟨rfl,rfl,rfl⟩:=hcs
  suffices h : ∃ l,CL (Bs.of w.heap.size) l (.slice (some ad) n c) w∧l.length=n∧∀ o∈l,Nine o by
   obtain ⟨l,h1,h2,h3⟩:=h
   exact ⟨l,h1,by omega,h3⟩
  refine is_of eC 35 (by decide) w ad n c Nine fun i hlt=>?_
  obtain ⟨cs,hc,ht⟩:=hi i (by rw [hm];split<;>omega)
  rw [cellsC9] at hc
  obtain ⟨_,hcl,hat⟩:=World.cells?_some hc
  obtain ⟨ys,n1,_,_,_,hyl,hf⟩:=DataW.trod_struct Tryz.underlying35 ht
  have g0:=fld (o:=0) (t:=3) rfl rfl cellsI ((hf 0 _ rfl).trans (List.getElem?_eq_getElem (by rw [hyl];decide)))
  have g1:=fld (o:=1) (t:=3) rfl rfl cellsI ((hf 1 _ rfl).trans (List.getElem?_eq_getElem (by rw [hyl];decide)))
  have g2:=fld (o:=2) (t:=3) rfl rfl cellsI ((hf 2 _ rfl).trans (List.getElem?_eq_getElem (by rw [hyl];decide)))
  have g3:=fld (o:=3) (t:=3) rfl rfl cellsI ((hf 3 _ rfl).trans (List.getElem?_eq_getElem (by rw [hyl];decide)))
  have g4:=fld (o:=4) (t:=3) rfl rfl cellsI ((hf 4 _ rfl).trans (List.getElem?_eq_getElem (by rw [hyl];decide)))
  have g5:=fld (o:=5) (t:=3) rfl rfl cellsI ((hf 5 _ rfl).trans (List.getElem?_eq_getElem (by rw [hyl];decide)))
  have g6:=fld (o:=6) (t:=3) rfl rfl cellsI ((hf 6 _ rfl).trans (List.getElem?_eq_getElem (by rw [hyl];decide)))
  have g7:=fld (o:=7) (t:=3) rfl rfl cellsI ((hf 7 _ rfl).trans (List.getElem?_eq_getElem (by rw [hyl];decide)))
  have g8:=fld (o:=8) (t:=3) rfl rfl cellsI ((hf 8 _ rfl).trans (List.getElem?_eq_getElem (by rw [hyl];decide)))
  obtain ⟨x0,e0,w0⟩:=one_of 0 g0
  obtain ⟨x1,e1,w1⟩:=one_of 1 g1
  obtain ⟨x2,e2,w2⟩:=one_of 2 g2
  obtain ⟨x3,e3,w3⟩:=one_of 3 g3
  obtain ⟨x4,e4,w4⟩:=one_of 4 g4
  obtain ⟨x5,e5,w5⟩:=one_of 5 g5
  obtain ⟨x6,e6,w6⟩:=one_of 6 g6
  obtain ⟨x7,e7,w7⟩:=one_of 7 g7
  obtain ⟨x8,e8,w8⟩:=one_of 8 g8
  refine ⟨v9 x0 x1 x2 x3 x4 x5 x6 x7 x8,[.int .i64 x0,.int .i64 x1,.int .i64 x2,.int .i64 x3,.int .i64 x4,.int .i64 x5,.int .i64 x6,.int .i64 x7,.int .i64 x8],⟨_,_,_,_,_,_,_,_,_,rfl⟩,(Cm.fc_list (v9 x0 x1 x2 x3 x4 x5 x6 x7 x8)).symm,fun j u hu=>?_⟩
  show w.cell? ((ad.add (i*9)).add j)=some u
  match j,hu with
  | 0,hu=>obtain rfl:=Option.some.inj hu;rw [hat 0 (by omega),e0]
  | 1,hu=>obtain rfl:=Option.some.inj hu;rw [hat 1 (by omega),e1]
  | 2,hu=>obtain rfl:=Option.some.inj hu;rw [hat 2 (by omega),e2]
  | 3,hu=>obtain rfl:=Option.some.inj hu;rw [hat 3 (by omega),e3]
  | 4,hu=>obtain rfl:=Option.some.inj hu;rw [hat 4 (by omega),e4]
  | 5,hu=>obtain rfl:=Option.some.inj hu;rw [hat 5 (by omega),e5]
  | 6,hu=>obtain rfl:=Option.some.inj hu;rw [hat 6 (by omega),e6]
  | 7,hu=>obtain rfl:=Option.some.inj hu;rw [hat 7 (by omega),e7]
  | 8,hu=>obtain rfl:=Option.some.inj hu;rw [hat 8 (by omega),e8]
  | j+9,hu=>cases hu
theorem open_cmd {H : Type} {enc : TypeId × Value→H} {W : World} {r : Reach} {base b0 : Nat} {sp : Nat→Bool} {held : Bool} {v : Value} {d : DataW H} {p : List MemPlace}
  (hv : Value.okWide Tryz.prog W r b0 35 v) (h : DataW.Trod enc Tryz.prog W base sp held 35 v d p) : ∃ c : Cd,v=.agg (fc c)∧Nine c:=by
 obtain ⟨cs,rfl,hsz⟩:=okWide_struct Tryz.underlying35 hv
 obtain ⟨fuel,hf0⟩:=h
 obtain ⟨ys,n1,_,_,_,hyl,hf⟩:=DataW.trod_struct Tryz.underlying35 hf0
 rw [cellsC9] at hsz
 have g0:=fld (o:=0) (t:=3) rfl rfl cellsI ((hf 0 _ rfl).trans (List.getElem?_eq_getElem (by rw [hyl];decide)))
 have g1:=fld (o:=1) (t:=3) rfl rfl cellsI ((hf 1 _ rfl).trans (List.getElem?_eq_getElem (by rw [hyl];decide)))
 have g2:=fld (o:=2) (t:=3) rfl rfl cellsI ((hf 2 _ rfl).trans (List.getElem?_eq_getElem (by rw [hyl];decide)))
 have g3:=fld (o:=3) (t:=3) rfl rfl cellsI ((hf 3 _ rfl).trans (List.getElem?_eq_getElem (by rw [hyl];decide)))
 have g4:=fld (o:=4) (t:=3) rfl rfl cellsI ((hf 4 _ rfl).trans (List.getElem?_eq_getElem (by rw [hyl];decide)))
 have g5:=fld (o:=5) (t:=3) rfl rfl cellsI ((hf 5 _ rfl).trans (List.getElem?_eq_getElem (by rw [hyl];decide)))
 have g6:=fld (o:=6) (t:=3) rfl rfl cellsI ((hf 6 _ rfl).trans (List.getElem?_eq_getElem (by rw [hyl];decide)))
 have g7:=fld (o:=7) (t:=3) rfl rfl cellsI ((hf 7 _ rfl).trans (List.getElem?_eq_getElem (by rw [hyl];decide)))
 have g8:=fld (o:=8) (t:=3) rfl rfl cellsI ((hf 8 _ rfl).trans (List.getElem?_eq_getElem (by rw [hyl];decide)))
 obtain ⟨x0,e0,w0⟩:=one_of 0 g0
 obtain ⟨x1,e1,w1⟩:=one_of 1 g1
 obtain ⟨x2,e2,w2⟩:=one_of 2 g2
 obtain ⟨x3,e3,w3⟩:=one_of 3 g3
 obtain ⟨x4,e4,w4⟩:=one_of 4 g4
 obtain ⟨x5,e5,w5⟩:=one_of 5 g5
 obtain ⟨x6,e6,w6⟩:=one_of 6 g6
 obtain ⟨x7,e7,w7⟩:=one_of 7 g7
 obtain ⟨x8,e8,w8⟩:=one_of 8 g8
 refine ⟨v9 x0 x1 x2 x3 x4 x5 x6 x7 x8,?_,_,_,_,_,_,_,_,_,_,rfl⟩
 rw [← Cm.agg9]
 congr 1
 apply Array.ext_getElem?
 intro i
 have hl : (Value.agg cs).cells.toList=cs.toList:=rfl
 rw [hl] at e0 e1 e2 e3 e4 e5 e6 e7 e8
 match i with
 | 0=>simpa using e0
 | 1=>simpa using e1
 | 2=>simpa using e2
 | 3=>simpa using e3
 | 4=>simpa using e4
 | 5=>simpa using e5
 | 6=>simpa using e6
 | 7=>simpa using e7
 | 8=>simpa using e8
 | i+9=>rw [Array.getElem?_eq_none (by omega),Array.getElem?_eq_none (by simp)]
end Go.Proofs.YtacihckimlddbaaGreat.Ex
