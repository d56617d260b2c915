/- Of layer 12's statements: a slice's one element; an exchange of one lane. -/
import Derived.Test.YtjhocpcpkemcaaaGreatQkZZ
import Derived.Test.YtjhocpcpkemcaaaGreatQkAZ
import Derived.Test.YtjhocpcpkemcaaaGreatQkAU
import Derived.Test.YtjhocpcpkemcaaaGreatQkAG
import Derived.Deep.Slices
import Derived.Deep.Fields
import Derived.ChangeSame
import Derived.OpenShut
import Derived.Test.YtjhocpcpkemcaaaGreatQkBX
import Derived.Test.YtjhocpcpkemcaaaGreatQkBV
import Derived.Laws.AppendOwn
import Derived.StillTailTactics
import Derived.Test.YtjhocpcpkemcaaaGreatQkBW
set_option linter.unusedVariables false
set_option maxRecDepth 16000
set_option maxHeartbeats 32000000
namespace Go.Proofs.YtjhocpcpkemcaaaGreat.Ex
open Go.RowKit
open Rw
open Da
open La (Ln is_hl)
open Se (ret_bool)
def midOk : Value→Value→Value→Bool
 | .slice _ _ c,.int .i64 i,.int .i64 j=>decide (0≤i∧i≤j∧j≤c)
 | _,_,_=>false
def cutMid (s k j : Nat) : Value→Value
 | .slice a _ c=>.slice (if c=k then a else a.map (·.add (k*s))) (j - k) (c - k)
 | v=>v
theorem exec_mid {P : Program} {t T : TypeId} {k bytes : Nat} (ρ : Operand→Value) (dst : Option Tmp) (ty : TypeId) (pos : String) (after : Array Edge) (guard : Option (Nat × Bool)) (w : World) (E : Elem P t T k bytes) (x y z : Operand) (h : midOk (ρ x) (ρ y) (ρ z)=true) :
  (execOp ρ { dst,op:=.slice t x (some y) (some z) none,type:=ty,pos,after,guard }).run P w=.ok (.value (cutMid k (natOf (ρ y)) (natOf (ρ z)) (ρ x))) w:=by
 generalize hx : ρ x=X at h ⊢
 generalize hy : ρ y=Y at h ⊢
 generalize hz : ρ z=Z at h ⊢
 match X,Y,Z,h with
 | .slice a n c,.int .i64 i,.int .i64 j,h =>
  have h:=of_decide_eq_true h
  obtain ⟨m,rfl⟩ : ∃ m : Nat,i=m:=⟨i.toNat,by omega⟩
  obtain ⟨q,rfl⟩ : ∃ m : Nat,j=m:=⟨j.toNat,by omega⟩
  obtain ⟨i,zz,hi,hz',hs,hb,hzs⟩:=E.ex
  have h1 : m≤q:=by omega
  have h2 : q≤c:=by omega
  simp [execOp,hx,hy,hz,Instr.sliceAt,Instr.slice,Instr.sliceBounds,Instr.sliceBound,asIntOf,run_underlying E.ht,sizeOf,typeInfo,hi,hs,cutMid,natOf,h1,h2]
  by_cases e : c=m<;>simp [e]
theorem midN (ρ : Operand→Value) (dst : Option Tmp) (ty : TypeId) (pos : String) (after : Array Edge) (guard : Option (Nat × Bool)) (w : World) (x y z : Operand) (h : midOk (ρ x) (ρ y) (ρ z)=true) :
  (execOp ρ { dst,op:=.slice 25 x (some y) (some z) none,type:=ty,pos,after,guard }).run Tryz.prog w=.ok (.value (cutMid 6 (natOf (ρ y)) (natOf (ρ z)) (ρ x))) w :=
 exec_mid ρ dst ty pos after guard w elemN x y z h
theorem mid_at {b off N d k : Nat} (h : k<d) : midOk (.slice (some ⟨b,off,none⟩) N d) (.int .i64 (k : Nat)) (.int .i64 ((k : Nat)+1))=true∧cutMid 6 k (k+1) (.slice (some ⟨b,off,none⟩) N d)=.slice (some ⟨b,off+k*6,none⟩) 1 (d - k):=by
 refine ⟨by unfold midOk;exact decide_eq_true (by omega),?_⟩
 unfold cutMid
 simp only
 rw [if_neg (by omega),show k+1 - k=1 from by omega]
 simp [add_at]
abbrev oneX (l : Ln) : Xc:=⟨[],[l],[],[],[]⟩
theorem xv_one {n : Nat} {L : List Ln} {b off d k : Nat} {w : World} (h : Lies eN 59 (Bs.of n) L b off w) (hk : k<L.length) (hd : L.length≤d) :
  XV n (oneX L[k]) (.agg #[.slice none 0 0,.slice (some ⟨b,off+k*6,none⟩) 1 (d - k),.slice none 0 0,.slice none 0 0,.slice none 0 0]) w:=by
 obtain ⟨h1,h2,h3⟩:=h
 refine ⟨_,_,_,_,_,rfl,is_hl (Is.nil _ _ _ _),⟨_,_,rfl,.inr ⟨b,off+k*6,rfl,h1,h2,fun i x hx=>?_⟩⟩,Is.nil _ _ _ _,is_hl (Is.nil _ _ _ _),is_hl (Is.nil _ _ _ _),show 1≤d - k by omega⟩
 match i,hx with
 | 0,hx =>
  obtain rfl:=Option.some.inj hx
  obtain ⟨cs,hc,hu⟩:=h3 k _ (List.getElem?_eq_getElem hk)
  exact ⟨cs,hc,fun j u hj=>by rw [Nat.zero_mul,Nat.add_zero];exact hu j u hj⟩
theorem smX_one {l : Ln} (h : La.Sm l) : SmX (oneX l):=⟨by simp,by simp,by simp,by simp,by simp,fun x hx=>by obtain rfl:=List.mem_singleton.1 hx;exact h⟩
end Go.Proofs.YtjhocpcpkemcaaaGreat.Ex
namespace Go.Proofs.YtjhocpcpkemcaaaGreat.Le
open Go.RowKit
open Go.ChangeShapes Go.WideShapes Go.Deep
open Rw
open Da
theorem cellsI : Tryz.prog.cellsOf 3=1:=by kernel_rfl
theorem cell_block {w : World} {p : Addr} {v : Value} (h : w.cell? p=some v) : p.block<w.heap.size:=by
 apply Nat.lt_of_not_le
 intro hc
 have : w.heap[p.block]?=none:=Array.getElem?_eq_none hc
 unfold World.cell? at h
 simp [this] at h
theorem is_of {α : Type} [Inhabited α] (e : Enc α) (T : TypeId) (h0 : 0<e.k) (w : World) (a : Addr) (len c : Nat) (good : α→Prop)
  (h : ∀ i,i<len→∃ x cs,good x∧e.R (Bs.of w.heap.size) x cs w∧∀ j u,cs[j]?=some u→w.cell? ((a.add (i*e.k)).add j)=some u) : ∃ l,Is e T (Bs.of w.heap.size) l (.slice (some a) len c) w∧l.length=len∧∀ x∈l,good x:=by
 classical
 have hg : ∀ i,∃ x,i<len→good x∧∃ cs,e.R (Bs.of w.heap.size) x cs w∧∀ j u,cs[j]?=some u→w.cell? ((a.add (i*e.k)).add j)=some u:=fun i=>by
  by_cases hi : i<len
  ·obtain ⟨x,cs,h1,h2,h3⟩:=h i hi;exact ⟨x,fun _=>⟨h1,cs,h2,h3⟩⟩
  ·exact ⟨default,fun e=>absurd e hi⟩
 let f:=fun i=>Classical.choose (hg i)
 have hf : ∀ i,i<len→good (f i)∧∃ cs,e.R (Bs.of w.heap.size) (f i) cs w∧∀ j u,cs[j]?=some u→w.cell? ((a.add (i*e.k)).add j)=some u:=fun i=>Classical.choose_spec (hg i)
 have hlen : ((List.range len).map f).length=len:=by simp
 refine ⟨(List.range len).map f,⟨some a,c,by rw [hlen],?_⟩,hlen,fun x hx=>?_⟩
 ·by_cases e0 : len=0
  ·left;subst e0;exact ⟨rfl,fun e=>by cases e⟩
  ·right
   obtain ⟨_,cs,hR,hu⟩:=hf 0 (by omega)
   have h1 : 0<cs.length:=by rw [e.len hR];exact h0
   have h2:=hu 0 _ (List.getElem?_eq_getElem h1)
   have h3:=World.cell?_spot h2
   obtain ⟨b,off,spot⟩:=a
   obtain rfl : spot=none:=by simpa [Addr.add] using h3
   have h4:=cell_block h2
   rw [add_eq,add_eq] at h4
   refine ⟨b,off,rfl,h4,.inl h4,fun i x hx=>?_⟩
   have hi : i<len:=by
    rcases Nat.lt_or_ge i len with h | h
    ·exact h
    ·rw [List.getElem?_eq_none (by rw [hlen];exact h)] at hx;cases hx
   have e2 : f i=x:=by simpa [hi] using hx
   subst e2
   obtain ⟨_,ds,hR2,hu2⟩:=hf i hi
   refine ⟨ds,hR2,fun j u hj=>?_⟩
   have:=hu2 j u hj
   rwa [add_eq,add_eq] at this
 ·obtain ⟨i,hi,rfl⟩:=List.mem_map.1 hx
  exact (hf i (List.mem_range.1 hi)).1
theorem one_of {H : Type} {en : TypeId × Value→H} {w : World} {base n : Nat} {sp : Nat→Bool} {held : Bool} {cs : List Value} {y : DataW H × List MemPlace} (j : Nat)
  (h : DataW.trod en Tryz.prog w base sp held n 3 ((cs.drop j).take 1)=some y) : ∃ x,cs[j]?=some (.int .i64 x)∧(Lit.int .i64 x).wf=true:=by
 obtain ⟨x,e,_,hw⟩:=DataW.trod_int Tryz.underlying3 h
 refine ⟨x,?_,hw⟩
 have e2 : ((cs.drop j).take 1)[0]?=some (.int .i64 x):=by rw [e];rfl
 simpa using e2
theorem fld {H : Type} {en : TypeId × Value→H} {w : World} {base n o k : Nat} {sp : Nat→Bool} {held : Bool} {t : TypeId} {cs : List Value} {y : DataW H × List MemPlace} {f : Field} (ht : f.type=t) (ho : f.offset=o) (hk : Tryz.prog.cellsOf t=k)
  (h : DataW.trod en Tryz.prog w base sp held n f.type ((cs.drop f.offset).take (Tryz.prog.cellsOf f.type))=some y) : DataW.trod en Tryz.prog w base sp held n t ((cs.drop o).take k)=some y:=by
 subst ht ho hk;exact h
end Go.Proofs.YtjhocpcpkemcaaaGreat.Le
namespace Go.Proofs.YtjhocpcpkemcaaaGreat.Ex
open Go.RowKit
open Go.ChangeShapes Go.WideShapes Go.Deep
open Rw
open Da
open Le (is_of fld one_of cellsI)
open Cm (fc fc_at v9)
theorem cellsC9 : Tryz.prog.cellsOf 35=9:=by kernel_rfl
def wfCs (l : List Cd) : Prop:=l.length≤maxLen∧∀ c∈l,Nine c
theorem open_cmds {H : Type} {en : TypeId × Value→H} {w : World} {base fuel : Nat} {sp : Nat→Bool} {held : Bool} {a : Option Addr} {n c : Nat} {x : DataW H × List MemPlace}
  (h : DataW.trod en Tryz.prog w base sp held fuel 22 (Value.slice a n c).cells.toList=some x) : ∃ l,CL (Bs.of w.heap.size) l (.slice a n c) w∧wfCs l:=by
 rcases open_slice Tryz.underlying22 h with ⟨hcs,_⟩ | ⟨ad,len,cap,m,n',D,Pl,hcs,_,hl,hcap,hm,_,hi⟩
 ·simp [Value.cells] at hcs
  obtain ⟨rfl,rfl,rfl⟩:=hcs
  exact ⟨[],Is.nil _ _ _ _,Nat.zero_le _,by simp⟩
 ·simp [Value.cells] at hcs
  obtain ⟨rfl,rfl,rfl⟩:=hcs
  suffices h : ∃ l,CL (Bs.of w.heap.size) l (.slice (some ad) n c) w∧l.length=n∧∀ o∈l,Nine o by
   obtain ⟨l,h1,h2,h3⟩:=h
   exact ⟨l,h1,by omega,h3⟩
  refine is_of eC 35 (by decide) w ad n c Nine fun i hlt=>?_
  obtain ⟨cs,hc,ht⟩:=hi i (by rw [hm];split<;>omega)
  rw [cellsC9] at hc
  obtain ⟨_,hcl,hat⟩:=World.cells?_some hc
  obtain ⟨ys,n1,_,_,_,hyl,hf⟩:=DataW.trod_struct Tryz.underlying35 ht
  have g0:=fld (o:=0) (t:=3) rfl rfl cellsI ((hf 0 _ rfl).trans (List.getElem?_eq_getElem (by rw [hyl];decide)))
  have g1:=fld (o:=1) (t:=3) rfl rfl cellsI ((hf 1 _ rfl).trans (List.getElem?_eq_getElem (by rw [hyl];decide)))
  have g2:=fld (o:=2) (t:=3) rfl rfl cellsI ((hf 2 _ rfl).trans (List.getElem?_eq_getElem (by rw [hyl];decide)))
  have g3:=fld (o:=3) (t:=3) rfl rfl cellsI ((hf 3 _ rfl).trans (List.getElem?_eq_getElem (by rw [hyl];decide)))
  have g4:=fld (o:=4) (t:=3) rfl rfl cellsI ((hf 4 _ rfl).trans (List.getElem?_eq_getElem (by rw [hyl];decide)))
  have g5:=fld (o:=5) (t:=3) rfl rfl cellsI ((hf 5 _ rfl).trans (List.getElem?_eq_getElem (by rw [hyl];decide)))
  have g6:=fld (o:=6) (t:=3) rfl rfl cellsI ((hf 6 _ rfl).trans (List.getElem?_eq_getElem (by rw [hyl];decide)))
  have g7:=fld (o:=7) (t:=3) rfl rfl cellsI ((hf 7 _ rfl).trans (List.getElem?_eq_getElem (by rw [hyl];decide)))
  have g8:=fld (o:=8) (t:=3) rfl rfl cellsI ((hf 8 _ rfl).trans (List.getElem?_eq_getElem (by rw [hyl];decide)))
  obtain ⟨x0,e0,w0⟩:=one_of 0 g0
  obtain ⟨x1,e1,w1⟩:=one_of 1 g1
  obtain ⟨x2,e2,w2⟩:=one_of 2 g2
  obtain ⟨x3,e3,w3⟩:=one_of 3 g3
  obtain ⟨x4,e4,w4⟩:=one_of 4 g4
  obtain ⟨x5,e5,w5⟩:=one_of 5 g5
  obtain ⟨x6,e6,w6⟩:=one_of 6 g6
  obtain ⟨x7,e7,w7⟩:=one_of 7 g7
  obtain ⟨x8,e8,w8⟩:=one_of 8 g8
  refine ⟨v9 x0 x1 x2 x3 x4 x5 x6 x7 x8,[.int .i64 x0,.int .i64 x1,.int .i64 x2,.int .i64 x3,.int .i64 x4,.int .i64 x5,.int .i64 x6,.int .i64 x7,.int .i64 x8],⟨_,_,_,_,_,_,_,_,_,rfl⟩,(Cm.fc_list (v9 x0 x1 x2 x3 x4 x5 x6 x7 x8)).symm,fun j u hu=>?_⟩
  show w.cell? ((ad.add (i*9)).add j)=some u
  match j,hu with
  | 0,hu=>obtain rfl:=Option.some.inj hu;rw [hat 0 (by omega),e0]
  | 1,hu=>obtain rfl:=Option.some.inj hu;rw [hat 1 (by omega),e1]
  | 2,hu=>obtain rfl:=Option.some.inj hu;rw [hat 2 (by omega),e2]
  | 3,hu=>obtain rfl:=Option.some.inj hu;rw [hat 3 (by omega),e3]
  | 4,hu=>obtain rfl:=Option.some.inj hu;rw [hat 4 (by omega),e4]
  | 5,hu=>obtain rfl:=Option.some.inj hu;rw [hat 5 (by omega),e5]
  | 6,hu=>obtain rfl:=Option.some.inj hu;rw [hat 6 (by omega),e6]
  | 7,hu=>obtain rfl:=Option.some.inj hu;rw [hat 7 (by omega),e7]
  | 8,hu=>obtain rfl:=Option.some.inj hu;rw [hat 8 (by omega),e8]
  | j+9,hu=>cases hu
theorem open_cmd {H : Type} {enc : TypeId × Value→H} {W : World} {r : Reach} {base b0 : Nat} {sp : Nat→Bool} {held : Bool} {v : Value} {d : DataW H} {p : List MemPlace}
  (hv : Value.okWide Tryz.prog W r b0 35 v) (h : DataW.Trod enc Tryz.prog W base sp held 35 v d p) : ∃ c : Cd,v=.agg (fc c)∧Nine c:=by
 obtain ⟨cs,rfl,hsz⟩:=okWide_struct Tryz.underlying35 hv
 obtain ⟨fuel,hf0⟩:=h
 obtain ⟨ys,n1,_,_,_,hyl,hf⟩:=DataW.trod_struct Tryz.underlying35 hf0
 rw [cellsC9] at hsz
 have g0:=fld (o:=0) (t:=3) rfl rfl cellsI ((hf 0 _ rfl).trans (List.getElem?_eq_getElem (by rw [hyl];decide)))
 have g1:=fld (o:=1) (t:=3) rfl rfl cellsI ((hf 1 _ rfl).trans (List.getElem?_eq_getElem (by rw [hyl];decide)))
 have g2:=fld (o:=2) (t:=3) rfl rfl cellsI ((hf 2 _ rfl).trans (List.getElem?_eq_getElem (by rw [hyl];decide)))
 have g3:=fld (o:=3) (t:=3) rfl rfl cellsI ((hf 3 _ rfl).trans (List.getElem?_eq_getElem (by rw [hyl];decide)))
 have g4:=fld (o:=4) (t:=3) rfl rfl cellsI ((hf 4 _ rfl).trans (List.getElem?_eq_getElem (by rw [hyl];decide)))
 have g5:=fld (o:=5) (t:=3) rfl rfl cellsI ((hf 5 _ rfl).trans (List.getElem?_eq_getElem (by rw [hyl];decide)))
 have g6:=fld (o:=6) (t:=3) rfl rfl cellsI ((hf 6 _ rfl).trans (List.getElem?_eq_getElem (by rw [hyl];decide)))
 have g7:=fld (o:=7) (t:=3) rfl rfl cellsI ((hf 7 _ rfl).trans (List.getElem?_eq_getElem (by rw [hyl];decide)))
 have g8:=fld (o:=8) (t:=3) rfl rfl cellsI ((hf 8 _ rfl).trans (List.getElem?_eq_getElem (by rw [hyl];decide)))
 obtain ⟨x0,e0,w0⟩:=one_of 0 g0
 obtain ⟨x1,e1,w1⟩:=one_of 1 g1
 obtain ⟨x2,e2,w2⟩:=one_of 2 g2
 obtain ⟨x3,e3,w3⟩:=one_of 3 g3
 obtain ⟨x4,e4,w4⟩:=one_of 4 g4
 obtain ⟨x5,e5,w5⟩:=one_of 5 g5
 obtain ⟨x6,e6,w6⟩:=one_of 6 g6
 obtain ⟨x7,e7,w7⟩:=one_of 7 g7
 obtain ⟨x8,e8,w8⟩:=one_of 8 g8
 refine ⟨v9 x0 x1 x2 x3 x4 x5 x6 x7 x8,?_,_,_,_,_,_,_,_,_,_,rfl⟩
 rw [← Cm.agg9]
 congr 1
 apply Array.ext_getElem?
 intro i
 have hl : (Value.agg cs).cells.toList=cs.toList:=rfl
 rw [hl] at e0 e1 e2 e3 e4 e5 e6 e7 e8
 match i with
 | 0=>simpa using e0
 | 1=>simpa using e1
 | 2=>simpa using e2
 | 3=>simpa using e3
 | 4=>simpa using e4
 | 5=>simpa using e5
 | 6=>simpa using e6
 | 7=>simpa using e7
 | 8=>simpa using e8
 | i+9=>rw [Array.getElem?_eq_none (by omega),Array.getElem?_eq_none (by simp)]
end Go.Proofs.YtjhocpcpkemcaaaGreat.Ex
namespace Go.Proofs.YtjhocpcpkemcaaaGreat.Cm
open Go.RowKit
open Rw
open Fx (ret_v ret_bool ret_int)
def K1 (c : Nat→Int) (v : Value) (w : World) : Prop:=∃ b cap,v=.slice (some ⟨b,0,none⟩) 1 cap∧b<w.heap.size∧w.cell? ⟨b,0,none⟩=some (.bool false)∧w.cell? ⟨b,1,none⟩=some (.int .i64 (c 0))
def K2 (c : Nat→Int) (v : Value) (w : World) : Prop:=∃ b cap,v=.slice (some ⟨b,0,none⟩) 2 cap∧b<w.heap.size∧w.cell? ⟨b,0,none⟩=some (.bool false)∧w.cell? ⟨b,1,none⟩=some (.int .i64 (c 0))∧w.cell? ⟨b,2,none⟩=some (.bool true)∧w.cell? ⟨b,3,none⟩=some (.int .i64 (c 3))
theorem hasLane_is {k : Int} {r : Bool} (h : Hid (laneB k=r)) (w : World) :
  Calls Tryz.prog 64 #[.int .i64 k] w fun e w'=>e=.returned (.bool r)∧w=w':=by
 rw [← h.out];exact hasLane_any k w
theorem keys0 (c : Nat→Int) (h : (c 2==0)=true) (w : World) :
  Calls Tryz.prog 23 #[.agg (fc c)] w fun e w'=>e=.returned (.slice none 0 0)∧Below w.heap.size w w':=by
 go_enter Tryz.func23,Tryz.ntmps23
 go_wp2
 go_ret
 exact ⟨rfl,below1 _ _⟩
def Post (F : Value→World→Prop) (w : World) (e : Ending) (w' : World) : Prop:=∃ v,e=.returned v∧Below w.heap.size w w'∧F v w'
theorem keys1 (c : Nat→Int) (h : (c 2==0)=false) (k : Hid (laneB (c 2)=false)) (w : World) :
  Calls Tryz.prog 23 #[.agg (fc c)] w (Post (K1 c) w):=by
 go_enter Tryz.func23,Tryz.ntmps23
 go_wp2_with fail
 refine (hasLane_is k _).mono ?_
 rintro e w' ⟨rfl,rfl⟩
 go_wp2
 go_ret
 exact ⟨_,rfl,below3 _ _ _ _,_,_,rfl,by simp,by simp [go_sem],by simp [go_sem]⟩
theorem keys2 (c : Nat→Int) (h : (c 2==0)=false) (k : Hid (laneB (c 2)=true)) (w : World) :
  Calls Tryz.prog 23 #[.agg (fc c)] w (Post (K2 c) w):=by
 go_enter Tryz.func23,Tryz.ntmps23
 go_wp2_with fail
 refine (hasLane_is k _).mono ?_
 rintro e w' ⟨rfl,rfl⟩
 go_wp2
 go_ret
 exact ⟨_,rfl,below3 _ _ _ _,_,_,rfl,by simp,by simp [go_sem],by simp [go_sem],by simp [go_sem],by simp [go_sem]⟩
def nk (c : Nat→Int) : Nat:=if laneB (c 2) then 2 else 1
def kl (j : Nat) : Bool:=j==1
def ki (c : Nat→Int) (j : Nat) : Int:=if j=1 then c 3 else c 0
def KN (c : Nat→Int) (v : Value) (w : World) : Prop:=∃ b cap,v=.slice (some ⟨b,0,none⟩) (nk c) cap∧b<w.heap.size∧∀ j,j<nk c→w.cell? ⟨b,j*2,none⟩=some (.bool (kl j))∧w.cell? ⟨b,j*2+1,none⟩=some (.int .i64 (ki c j))
def KV (c : Nat→Int) (v : Value) (w : World) : Prop:=(c 2=0∧v=.slice none 0 0)∨(c 2≠0∧KN c v w)
theorem KN.of1 {c : Nat→Int} {v : Value} {w : World} (hl : laneB (c 2)=false) (h : K1 c v w) : KN c v w:=by
 obtain ⟨b,cap,e,hb,h0,h1⟩:=h
 have hn : nk c=1:=by unfold nk;rw [hl];rfl
 refine ⟨b,cap,by rw [hn,e],hb,fun j hj=>?_⟩
 obtain rfl : j=0:=by omega
 exact ⟨h0,h1⟩
theorem KN.of2 {c : Nat→Int} {v : Value} {w : World} (hl : laneB (c 2)=true) (h : K2 c v w) : KN c v w:=by
 obtain ⟨b,cap,e,hb,h0,h1,h2,h3⟩:=h
 have hn : nk c=2:=by unfold nk;rw [hl];rfl
 refine ⟨b,cap,by rw [hn,e],hb,fun j hj=>?_⟩
 rcases (show j=0∨j=1 by omega) with rfl | rfl
 ·exact ⟨h0,h1⟩
 ·exact ⟨h2,h3⟩
theorem keys_any (c : Nat→Int) (w : World) : Calls Tryz.prog 23 #[.agg (fc c)] w (Post (KV c) w):=by
 by_cases h : c 2=0
 ·exact (keys0 c (by simp [h]) w).mono fun e w' ⟨he,hb⟩=>⟨_,he,hb,.inl ⟨h,rfl⟩⟩
 ·cases hl : laneB (c 2)
  ·exact (keys1 c (by simp [h]) (lH hl) w).mono fun e w' ⟨v,he,hb,k⟩=>⟨v,he,hb,.inr ⟨h,KN.of1 hl k⟩⟩
  ·exact (keys2 c (by simp [h]) (lH hl) w).mono fun e w' ⟨v,he,hb,k⟩=>⟨v,he,hb,.inr ⟨h,KN.of2 hl k⟩⟩
def keyB (a : Bool) (x : Int) (b : Bool) (y : Int) : Bool:=(a==b)&&(x==y)
theorem fieldsK : Tryz.prog.underlying 64=some (.struct (Tryz.prog.fieldsOf 64)):=by kernel_rfl
theorem eqK (a : Bool) (x : Int) (b : Bool) (y : Int) (w : World) : (Op.equalIn 10000 64 (.agg #[.bool a,.int .i64 x]) (.agg #[.bool b,.int .i64 y])).run Tryz.prog w=.ok (keyB a x b y) w:=by
 rw [run_equalIn_agg w 9999 _ _ _ fieldsK (by kernel_rfl)]
 simp only [Program.fieldsOf,Tryz.underlying64]
 simp [Op.eqFields,go_sem,keyB]
 by_cases h1 : a=b<;>by_cases h2 : x=y<;>simp [h1,h2]
theorem eqlK (a : Bool) (x : Int) (b : Bool) (y : Int) (w : World) : (binOp .eql 64 (.agg #[.bool a,.int .i64 x]) (.agg #[.bool b,.int .i64 y])).run Tryz.prog w=.ok (.bool (keyB a x b y)) w:=by
 rw [run_eql_struct,eqK];rfl
theorem neqK (a : Bool) (x : Int) (b : Bool) (y : Int) (w : World) : (binOp .neq 64 (.agg #[.bool a,.int .i64 x]) (.agg #[.bool b,.int .i64 y])).run Tryz.prog w=.ok (.bool (!keyB a x b y)) w:=by
 rw [run_neq_struct,eqK];rfl
theorem guardK (op : BinOp) (x y : Operand) (a : Bool) (p : Int) (b : Bool) (q : Int) (w : World) : (eqGuard op 64 x y (.agg #[.bool a,.int .i64 p]) (.agg #[.bool b,.int .i64 q])).run Tryz.prog w=.ok () w :=
 run_eqGuard_agg w op _ x y _ _ (by kernel_rfl)
attribute [go_sem ↓] eqlK neqK guardK
theorem nk_bd (c : Nat→Int) : 1≤nk c∧nk c≤2:=by unfold nk;split<;>omega
end Go.Proofs.YtjhocpcpkemcaaaGreat.Cm
namespace Go.Proofs.YtjhocpcpkemcaaaGreat.Ex
open Go.RowKit
open Rw
open Da
open La (Ln)
open Cm (fc fc_at v9 laneB chkE KV ki)
open Se (Rp fnd ret_bool)
attribute [local go_sem ↓] midN
theorem sameX_re (x : Xc) : SameX x x:=⟨rfl,rfl,rfl,rfl,rfl,fun i a b ha hb=>by
 rw [ha] at hb;obtain rfl:=Option.some.inj hb;exact ⟨rfl,rfl,rfl,rfl,rfl,rfl⟩⟩
theorem one_same {x y : Xc} {k : Nat} (hx : k<x.lanes.length) (hy : k<y.lanes.length) (e : y.lanes[k]?=x.lanes[k]?) : SameX (oneX x.lanes[k]) (oneX y.lanes[k]):=by
 rw [List.getElem?_eq_getElem hx,List.getElem?_eq_getElem hy] at e
 rw [Option.some.inj e];exact sameX_re _
theorem keys_form {c : Nat→Int} {v : Value} {w : World} (h : KV c v w) : ∃ a m cap,v=.slice a m cap∧m≤2∧decide (1<m)=laneB (c 2)∧∀ j,j<m→∃ b,a=some ⟨b,0,none⟩∧b<w.heap.size∧w.cell? ⟨b,j*2,none⟩=some (.bool (j==1))∧w.cell? ⟨b,j*2+1,none⟩=some (.int .i64 (ki c j)):=by
 rcases h with ⟨h0,rfl⟩ | ⟨h0,b,cap,rfl,hb,hc⟩
 ·exact ⟨none,0,0,rfl,by omega,by rw [h0];rfl,fun j hj=>absurd hj (by omega)⟩
 ·refine ⟨_,Cm.nk c,cap,rfl,(Cm.nk_bd c).2,?_,fun j hj=>⟨b,rfl,hb,hc j hj⟩⟩
  unfold Cm.nk
  cases laneB (c 2)<;>rfl
theorem lanes_lie {n : Nat} {L : List Ln} {a : Option Addr} {N d : Nat} {w : World} (h : NsL n L (.slice a N d) w) (hN : 0<N) : ∃ b off,a=some ⟨b,off,none⟩∧L.length=N∧Lies eN 59 (Bs.of n) L b off w:=by
 obtain ⟨_,_,e,h1⟩:=h
 simp only [Value.slice.injEq] at e
 obtain ⟨rfl,e2,rfl⟩:=e
 rcases h1 with ⟨e0,_⟩ | ⟨b,off,rfl,hat⟩
 ·rw [e0] at e2;simp at e2;omega
 ·exact ⟨b,off,rfl,e2.symm,hat⟩
theorem walkKeys (l : List Cd) (v : Value) (c : Cd) (w : World) (h : CL (Bs.of w.heap.size) l v w) (hl : wfCs l) (hc : Nine c) :
  Calls Tryz.prog 6 #[v,.agg (fc c)] w fun e w'=>e=.returned (.bool true)∧Below w.heap.size w w':=by
 obtain ⟨a0,c0,rfl,hel⟩:=h
 obtain ⟨N,hN⟩ : ∃ N,N=l.length:=⟨_,rfl⟩
 rw [← hN]
 obtain ⟨V,hV⟩ : ∃ V,V=w.alloc (.cells (fc c) 35):=⟨_,rfl⟩
 have hbV : Below w.heap.size w V:=hV ▸ below1 w _
 have b0 : V.heap[w.heap.size]?=some (.cells (fc c) 35 (0,0)):=by rw [hV];exact heap_alloc_new _ _
 have HV:=lH hV
 have HB:=lH hbV
 have HB0:=lH b0
 by_cases h40 : 40<N
 ·have hd1 : decide ((40 : Int)<N)=true:=decide_eq_true (by omega)
  clear hel hN b0 hV hbV h40 hl hc
  go_enter Tryz.func6,Tryz.ntmps6
  go_wp2_with fail
  rw [← HV.out]
  refine (awake_any V).mono ?_
  rintro e w1 ⟨rfl,hb1⟩
  have hf:=nx HB.out hb1
  go_wp2
  go_ret
  exact ⟨rfl,hf⟩
 have hd1 : decide ((40 : Int)<N)=false:=decide_eq_false (by omega)
 have HCl:=lH (show CL (Bs.of w.heap.size) l (.slice a0 N c0) w from by rw [hN];exact ⟨a0,c0,rfl,hel⟩)
 have HN:=lH (show l.length≤100000∧∀ e∈l,Nine e from ⟨by omega,hl.2⟩)
 clear hel hN b0 hV hbV hl hc h40
 go_enter Tryz.func6,Tryz.ntmps6
 go_wp2_with fail
 rw [← HV.out]
 refine (fresh_any w.heap.size V HB.out.size).mono ?_
 rintro e w2 ⟨v2,rfl,hb2,hx2⟩
 obtain ⟨_,_,_,_,_,rfl,hd2'⟩:=id hx2
 obtain ⟨p1,q1,p2,q2,p3,q3,p4,q4,p5,q5,rfl,rfl,rfl,rfl,rfl⟩:=hd2'.open'
 clear hd2'
 have HRn:=lH (runX_any w.heap.size x0 _ l _ w2 hx2 (nx HB.out hb2).size (smX_right r0) (Is.up _ _ (Bs.sub_of (show (Bs.of w.heap.size).le w2.heap.size from ⟨(nx HB.out hb2).size,fun _ h=>h.elim⟩)) (Is.stays _ _ HCl.out (nx HB.out hb2))) HN.out.1 HN.out.2)
 have hY:=runX_right l r0
 have hY2:=runX_len l r0
 obtain ⟨y,hy⟩ : ∃ y,runX x0 l=y:=⟨_,rfl⟩
 obtain ⟨rs,hrs⟩ : ∃ rs,runR x0 l=rs:=⟨_,rfl⟩
 rw [hy,hrs] at HRn
 rw [hy] at hY hY2
 have HY:=lH hY
 have HY2:=lH (show y.lanes.length=2 from hY2)
 clear hx2 hy hrs hY hY2
 go_wp2_with fail
 refine HRn.out.mono ?_
 rintro e w3 ⟨v3,g3,c3,rfl,hb3,hx3,-⟩
 obtain ⟨_,_,_,_,_,rfl,hd3⟩:=hx3
 obtain ⟨p1,q1,p2,q2,p3,q3,p4,q4,p5,q5,rfl,rfl,rfl,rfl,rfl⟩:=hd3.open'
 rw [HY2.out] at hd3 ⊢
 obtain ⟨W,hW⟩ : ∃ W,W=w3.alloc (.cells #[.slice p1 y.free.length q1,.slice p2 2 q2,.slice p3 y.sess.length q3,.slice p4 y.inn.length q4,.slice p5 y.out.length q5] 28):=⟨_,rfl⟩
 have hbW : Below w3.heap.size w3 W:=hW ▸ below1 w3 _
 have hvW:=nx (nx hb2 hb3) hbW
 obtain ⟨bx,hbx⟩ : ∃ b,b=w3.heap.size:=⟨_,rfl⟩
 have HX0:=lH (show XB w.heap.size y (.slice p1 y.free.length q1) (.slice p2 2 q2) (.slice p3 y.sess.length q3) (.slice p4 y.inn.length q4) (.slice p5 y.out.length q5) bx W from by rw [hW,hbx];exact XB.made hd3 (nx HB.out (nx hb2 hb3)).size)
 have HWW:=lH hvW
 have hq:=(hvW.block _ (lt_of_some HB0.out)).trans HB0.out
 have x1:=HX0.out.row
 have x2:=HX0.out.lt
 have x3 : row W w.heap.size=fc c:=row_is hq
 have x4:=lt_of_some hq
 rw [hW] at x1 x2 x3 x4
 rw [hbx] at x1 x2
 obtain ⟨A,hA⟩ : ∃ A,apply y c=A:=⟨_,rfl⟩
 have hK:=apply_keep HY.out c
 have h1:=applyX_any w.heap.size y (.agg #[.slice p1 y.free.length q1,.slice p2 2 q2,.slice p3 y.sess.length q3,.slice p4 y.inn.length q4,.slice p5 y.out.length q5]) c W ⟨_,_,_,_,_,rfl,HX0.out.d⟩ (nx HB.out hvW).size (smX_right HY.out)
 rw [hA] at h1 hK
 have h1:=lH h1
 have HA2:=lH (show A.1.lanes.length=2 from hK.len.trans HY2.out)
 have HK:=lH hK
 have HW:=lH hW
 have HBx:=lH hbx
 clear hd3 hW hbW hvW hb3 hb2 hA hK hq hbx
 go_wp2_with fail
 rw [← HW.out]
 with_reducible refine h1.out.mono ?_
 clear h1 x1 x2 x3 x4
 rintro e w4 ⟨v4,rfl,hb4,hx4⟩
 obtain ⟨_,_,_,_,_,rfl,dy⟩:=hx4
 obtain ⟨s1,t1,s2,t2,s3,t3,s4,t4,s5,t5,rfl,rfl,rfl,rfl,rfl⟩:=dy.open'
 rw [HA2.out] at dy ⊢
 obtain ⟨b,hbq⟩ : ∃ b,b=w4.heap.size:=⟨_,rfl⟩
 obtain ⟨M,hM⟩ : ∃ K,K=(w4.alloc (.cells #[.slice s1 A.1.free.length t1,.slice s2 2 t2,.slice s3 A.1.sess.length t3,.slice s4 A.1.inn.length t4,.slice s5 A.1.out.length t5] 28)).alloc (.cells #[.int .i64 A.2.1,.int .i64 A.2.2.1,.int .i64 A.2.2.2.1,.int .i64 A.2.2.2.2.1,.int .i64 A.2.2.2.2.2] 37):=⟨_,rfl⟩
 have hbM : Below w4.heap.size w4 M:=hM ▸ below2 w4 _ _
 have hWM:=nx hb4 hbM
 have hsz : w.heap.size≤w4.heap.size:=(nx HB.out (nx HWW.out hb4)).size
 have HF:=lH (show ∀ u,Below M.heap.size M u→XB w.heap.size y (.slice p1 y.free.length q1) (.slice p2 2 q2) (.slice p3 y.sess.length q3) (.slice p4 y.inn.length q4) (.slice p5 y.out.length q5) bx u∧XB w.heap.size A.1 (.slice s1 A.1.free.length t1) (.slice s2 2 t2) (.slice s3 A.1.sess.length t3) (.slice s4 A.1.inn.length t4) (.slice s5 A.1.out.length t5) b u∧u.heap[w.heap.size]?=some (.cells (fc c) 35 (0,0))∧w.heap.size≤u.heap.size from fun u hu =>
  ⟨HX0.out.stays (nx hWM hu),XB.stays (by rw [hM,hbq];exact (XB.made dy hsz).stays (below1 _ _)) hu,((nx HWW.out (nx hWM hu)).block _ (lt_of_some HB0.out)).trans HB0.out,Nat.le_trans hsz (nx hbM hu).size⟩)
 have HBM:=lH (nx HB.out (nx HWW.out hWM))
 obtain ⟨k1,k2,k3,-⟩:=HF.out M (Below.refl _ _)
 have x1:=k1.cells.2.1
 have x2:=k2.cells.2.1
 have x3 : row M w.heap.size=fc c:=row_is k3
 have x4:=lt_of_some k3
 have x5:=k1.lt
 have x6:=k2.lt
 have eb : b=w4.heap.size:=hbq
 have ex : bx=w3.heap.size:=HBx.out
 rw [hM,eb] at x2 x6
 rw [hM,ex] at x1 x5
 rw [hM] at x3 x4
 have HM:=lH hM
 have HBq:=lH hbq
 clear dy hM hbM hWM hb4 hsz k1 k2 k3 eb ex hbq
 go_wp2_with fail
 rw [← HM.out]
 clear x1 x2 x3 x4 x5 x6
 refine (Cm.keys_any c M).mono ?_
 rintro e w5 ⟨v5,rfl,hb5,hk5⟩
 obtain ⟨ka,m,kc,rfl,hm2,hmL,hkc⟩:=keys_form hk5
 have HKc:=lH hkc
 have HmL:=lH hmL
 have HB5:=lH hb5
 clear hkc hk5 hmL hb5
 go_wp2
 rw [← HBq.out,← HBx.out]
 go_loopw [9,44] (fun t i wr=>∃ k : Nat,k≤m∧i=.int .i64 k∧t=.bool (decide (1<k))∧Below w5.heap.size w5 wr) (fun _ i _=>m - (intOf i).toNat)
 case atStart=>exact ⟨0,Nat.zero_le _,rfl,rfl,Below.refl _ _⟩
 case round =>
  obtain ⟨k,hk,rfl,rfl,hb⟩:=hrel
  by_cases hlt : k<m
  ·have hlt2 : (k : Int)<m:=by omega
   obtain ⟨g,rfl,hgl,q0,q1⟩:=HKc.out k hlt
   obtain ⟨cb,cf⟩:=bcell hb
   have hgl2 : g<wr.heap.size:=Nat.lt_of_lt_of_le hgl hb.size
   have q0:=(cb g (k*2) hgl).trans q0
   have q1:=(cb g (k*2+1) hgl).trans q1
   have e0 : decide (1<k)=false:=decide_eq_false (by omega)
   rw [e0]
   obtain ⟨z,hz⟩ : ∃ z,(k==1)=z:=⟨_,rfl⟩
   obtain ⟨y1,hy1⟩ : ∃ z,ki c k=z:=⟨_,rfl⟩
   rw [hz] at q0
   rw [hy1] at q1
   have HZ:=lH (show decide (1<k+1)=z from by
    rw [← hz]
    rcases (show k=0∨k=1 by omega) with rfl | rfl<;>rfl)
   have hb9:=lH (nx hb (below1 wr (.cells #[.bool z,.int .i64 y1] 64)))
   clear e0 hz hy1 cb cf hgl
   go_wp2
   go_roundw
   case rel=>exact ⟨k+1,by omega,by go_num,by rw [HZ.out],hb9.out⟩
   case measure=>simp [intOf];omega
  ·obtain rfl : k=m:=by omega
   obtain ⟨g9,hg9⟩ : ∃ g,decide (1<k)=g:=⟨_,rfl⟩
   have HG:=lH (show laneB (c 2)=g9 from by rw [← HmL.out,hg9])
   rw [hg9]
   obtain ⟨W0,hW0⟩ : ∃ W : World,W=wr:=⟨_,rfl⟩
   subst hW0
   have HB6:=lH (nx HB5.out hb)
   obtain ⟨y1,y2,y3,y4⟩:=HF.out W0 HB6.out
   have x1:=y1.cells.2.1
   have x2:=y1.lt
   clear hg9 hb hlt hk y1 y2 y3 y4
   go_wp2
   clear x1 x2
   go_loopw [57] (fun i wr=>∃ k : Nat,k≤2∧i=.int .i64 k∧Below M.heap.size M wr) (fun i _=>2 - (intOf i).toNat)
   case atStart=>exact ⟨0,Nat.zero_le _,rfl,HB6.out⟩
   case round =>
    obtain ⟨k,hk,rfl,hb⟩:=hrel
    by_cases hlt : k<2
    ·have hlt2 : (k : Int)<2:=by omega
     obtain ⟨y1,y2,y3,y4⟩:=HF.out wr hb
     obtain ⟨b1,o1,rfl,el1,l1⟩:=lanes_lie y1.d.lanes (by decide)
     obtain ⟨b2,o2,rfl,el2,l2⟩:=lanes_lie y2.d.lanes (by decide)
     have cp1 : 2≤q2:=y1.d.cap
     have cp2 : 2≤t2:=y2.d.cap
     have x1:=y1.row
     have x2:=y2.row
     have x3:=y1.lt
     have x4:=y2.lt
     have x5 : bx<wr.heap.size+1:=by omega
     have x6 : b<wr.heap.size+1:=by omega
     have x7:=y1.cells.2.1
     have x8:=y2.cells.2.1
     have hk1 : k<y.lanes.length:=by rw [el1];exact hlt
     have hk2 : k<A.1.lanes.length:=by rw [el2];exact hlt
     obtain ⟨g,hg⟩ : ∃ g,decB (SameX (oneX y.lanes[k]) (oneX A.1.lanes[k]))=g:=⟨_,rfl⟩
     have HGq:=lH (show g=false→laneB (c 2)=true∧c 3=k from fun hgf=>by
      by_cases hh : chkE c=0∧laneB (c 2)=true∧c 3=k
      ·exact hh.2
      ·rw [← hg,decB_yes (one_same hk1 hk2 (HK.out.lanes k hh))] at hgf;cases hgf)
     have HS:=lH (show ∀ u,Below wr.heap.size wr u→_ from fun u hu=>sameXc_is (lH hg) (xv_one (d:=q2) (Lies.keep eN 59 l1 (Keeps.of_below hu)) hk1 (by rw [el1];exact cp1)) (xv_one (d:=t2) (Lies.keep eN 59 l2 (Keeps.of_below hu)) hk2 (by rw [el2];exact cp2)) (Nat.le_trans y4 hu.size) (smX_one ((smX_right HY.out).lane _ (List.getElem_mem hk1))) (smX_one ((smX_right HK.out.right).lane _ (List.getElem_mem hk2))))
     obtain ⟨m1,m2⟩:=mid_at (b:=b1) (off:=o1) (N:=2) (d:=q2) (k:=k) (by omega)
     obtain ⟨m3,m4⟩:=mid_at (b:=b2) (off:=o2) (N:=2) (d:=t2) (k:=k) (by omega)
     have m5 : natOf (.int .i64 ((k : Nat)+1))=k+1:=by unfold natOf;simp only;omega
     have HBw:=lH hb
     clear y1 y2 y3 y4 l1 l2 el1 el2 hg hb
     go_wp2
     go_region
     ·obtain ⟨Z,hZ⟩ : ∃ Z,Z=((wr.alloc (.cells #[.slice none 0 0,.slice (some ⟨b1,o1+k*6,none⟩) 1 (q2 - k),.slice none 0 0,.slice none 0 0,.slice none 0 0] 28)).alloc (.cells #[.slice none 0 0,.slice (some ⟨b2,o2+k*6,none⟩) 1 (t2 - k),.slice none 0 0,.slice none 0 0,.slice none 0 0] 28)).drew:=⟨_,rfl⟩
      have hbZ : Below wr.heap.size wr Z:=hZ ▸ (below2 wr _ _).drew
      have HZ:=lH hZ
      have HBZ:=lH hbZ
      clear hZ hbZ
      go_wp2_with fail
      rw [← HZ.out]
      with_reducible refine (HS.out Z HBZ.out).mono ?_
      rintro e u9 ⟨rfl,hb9⟩
      have hb10:=nx HBw.out (nx HBZ.out hb9)
      clear x1 x2 x3 x4 x5 x6 x7 x8 m1 m2 m3 m4 m5 hb9
      cases g
      ·obtain ⟨hL,h3⟩:=HGq.out rfl
       obtain rfl : g9=true:=by rw [← HG.out];exact hL
       have z3 : u9.cell? ⟨w.heap.size,3,none⟩=some (.int .i64 (c 3)):=(cell_is (HF.out u9 hb10).2.2.1).trans (fc_at c 3 (by decide))
       have d3 : (c 3 != (k : Int))=false:=by simp [h3]
       clear h3 hL
       go_wp2
       go_roundw
       case rel=>exact ⟨k+1,by omega,by go_num,hb10⟩
       case measure=>simp [intOf];omega
      ·go_wp2
       go_roundw
       case rel=>exact ⟨k+1,by omega,by go_num,hb10⟩
       case measure=>simp [intOf];omega
     ·obtain ⟨Z,hZ⟩ : ∃ Z,Z=((wr.alloc (.cells #[.slice none 0 0,.slice (some ⟨b2,o2+k*6,none⟩) 1 (t2 - k),.slice none 0 0,.slice none 0 0,.slice none 0 0] 28)).alloc (.cells #[.slice none 0 0,.slice (some ⟨b1,o1+k*6,none⟩) 1 (q2 - k),.slice none 0 0,.slice none 0 0,.slice none 0 0] 28)).drew:=⟨_,rfl⟩
      have hbZ : Below wr.heap.size wr Z:=hZ ▸ (below2 wr _ _).drew
      have HZ:=lH hZ
      have HBZ:=lH hbZ
      clear hZ hbZ
      go_wp2_with fail
      rw [← HZ.out]
      with_reducible refine (HS.out Z HBZ.out).mono ?_
      rintro e u9 ⟨rfl,hb9⟩
      have hb10:=nx HBw.out (nx HBZ.out hb9)
      clear x1 x2 x3 x4 x5 x6 x7 x8 m1 m2 m3 m4 m5 hb9
      cases g
      ·obtain ⟨hL,h3⟩:=HGq.out rfl
       obtain rfl : g9=true:=by rw [← HG.out];exact hL
       have z3 : u9.cell? ⟨w.heap.size,3,none⟩=some (.int .i64 (c 3)):=(cell_is (HF.out u9 hb10).2.2.1).trans (fc_at c 3 (by decide))
       have d3 : (c 3 != (k : Int))=false:=by simp [h3]
       clear h3 hL
       go_wp2
       go_roundw
       case rel=>exact ⟨k+1,by omega,by go_num,hb10⟩
       case measure=>simp [intOf];omega
      ·go_wp2
       go_roundw
       case rel=>exact ⟨k+1,by omega,by go_num,hb10⟩
       case measure=>simp [intOf];omega
    ·obtain rfl : k=2:=by omega
     have HB7:=lH hb
     clear hb hlt hk
     go_wp2
     obtain ⟨W1,hW1⟩ : ∃ W : World,W=wr:=⟨_,rfl⟩
     subst hW1
     go_loopw [99] (fun i wr=>∃ k : Nat,k≤6∧i=.int .i64 k∧Below M.heap.size M wr) (fun i _=>6 - (intOf i).toNat)
     case atStart=>exact ⟨0,Nat.zero_le _,rfl,HB7.out⟩
     case round =>
      obtain ⟨k,hk,rfl,hb⟩:=hrel
      by_cases hlt : k<6
      ·have hlt2 : (k : Int)<6:=by omega
       have x0:=(HF.out wr hb).2.2.1
       have x1 : wr.cell? ⟨w.heap.size,0,none⟩=some (.int .i64 (c 0)):=(cell_is x0).trans (fc_at c 0 (by decide))
       by_cases hd : (k : Int)=c 0
       ·have d1 : ((k : Int)==c 0)=true:=by simpa using hd
        clear hd x0
        go_wp2
        go_roundw
        case rel=>exact ⟨k+1,by omega,by go_num,hb⟩
        case measure=>simp [intOf];omega
       have d1 : ((k : Int)==c 0)=false:=by simpa using hd
       have HFr:=lH (show (∀ s,Ac.get A.1.free (k,s)=Ac.get y.free (k,s))∧(∀ s,Ac.get A.1.inn (k,s)=Ac.get y.inn (k,s))∧(∀ s,Ac.get A.1.out (k,s)=Ac.get y.out (k,s))∧Se.last k A.1.sess=Se.last k y.sess from ⟨fun s=>HK.out.free (k,s) hd,fun s=>HK.out.inn (k,s) hd,fun s=>HK.out.out (k,s) hd,by unfold Se.last;rw [HK.out.sess k hd]⟩)
       have HBk:=lH hb
       clear hd x0 hb
       go_wp2
       obtain ⟨W2,hW2⟩ : ∃ W : World,W=wr:=⟨_,rfl⟩
       subst hW2
       go_loopw [106] (fun i wr=>∃ s : Nat,s≤4∧i=.int .i64 s∧Below M.heap.size M wr) (fun i _=>4 - (intOf i).toNat)
       case atStart=>exact ⟨0,Nat.zero_le _,rfl,HBk.out⟩
       case round =>
        obtain ⟨s,hs,rfl,hb⟩:=hrel
        by_cases hlt3 : s<4
        ·have hlt4 : (s : Int)<4:=by omega
         obtain ⟨f1,f2,f3,-⟩:=HFr.out
         obtain ⟨r1,e1⟩ : ∃ r,Ac.get y.free ((k : Int),(s : Int))=r:=⟨_,rfl⟩
         obtain ⟨r2,e2⟩ : ∃ r,Ac.get y.inn ((k : Int),(s : Int))=r:=⟨_,rfl⟩
         obtain ⟨r3,e3⟩ : ∃ r,Ac.get y.out ((k : Int),(s : Int))=r:=⟨_,rfl⟩
         have G1:=lH e1
         have G2:=lH e2
         have G3:=lH e3
         have G4:=lH ((f1 s).trans e1)
         have G5:=lH ((f2 s).trans e2)
         have G6:=lH ((f3 s).trans e3)
         have n1 : (r1 != r1)=false:=by simp
         have n2 : (r2 != r2)=false:=by simp
         have n3 : (r3 != r3)=false:=by simp
         obtain ⟨U,hU⟩ : ∃ U,U=wr.alloc (.cells #[.int .i64 (k : Nat),.int .i64 (s : Nat)] 50):=⟨_,rfl⟩
         have hbU : Below wr.heap.size wr U:=hU ▸ below1 wr _
         have gU : U.heap[wr.heap.size]?=some (.cells #[.int .i64 (k : Nat),.int .i64 (s : Nat)] 50 (0,0)):=by rw [hU];exact heap_alloc_new _ _
         have HD:=lH (show ∀ u,Below U.heap.size U u→XD w.heap.size y (.slice p1 y.free.length q1) (.slice p2 2 q2) (.slice p3 y.sess.length q3) (.slice p4 y.inn.length q4) (.slice p5 y.out.length q5) u∧XD w.heap.size A.1 (.slice s1 A.1.free.length t1) (.slice s2 2 t2) (.slice s3 A.1.sess.length t3) (.slice s4 A.1.inn.length t4) (.slice s5 A.1.out.length t5) u from fun u hu=>by
          obtain ⟨k1,k2,-,-⟩:=HF.out u (nx hb (nx hbU hu))
          exact ⟨k1.d,k2.d⟩)
         have hF : ∀ u,Below U.heap.size U u→u.cell? ⟨bx,0,none⟩=some (.slice p1 y.free.length q1)∧u.cell? ⟨bx,3,none⟩=some (.slice p4 y.inn.length q4)∧u.cell? ⟨bx,4,none⟩=some (.slice p5 y.out.length q5)∧u.cell? ⟨b,0,none⟩=some (.slice s1 A.1.free.length t1)∧u.cell? ⟨b,3,none⟩=some (.slice s4 A.1.inn.length t4)∧u.cell? ⟨b,4,none⟩=some (.slice s5 A.1.out.length t5)∧u.cell? ⟨wr.heap.size,0,none⟩=some (.int .i64 (k : Nat))∧u.cell? ⟨wr.heap.size,1,none⟩=some (.int .i64 (s : Nat)):=fun u hu=>by
          obtain ⟨k1,k2,-,-⟩:=HF.out u (nx hb (nx hbU hu))
          obtain ⟨g0,-,-,g3,g4⟩:=k1.cells
          obtain ⟨h0,-,-,h3,h4⟩:=k2.cells
          have gu:=(hu.block _ (lt_of_some gU)).trans gU
          exact ⟨g0,g3,g4,h0,h3,h4,cell_is gu,cell_is gu⟩
         have HU:=lH hU
         have HBU:=lH (nx hb hbU)
         clear hU hbU gU hb e1 e2 e3 f1 f2 f3
         go_wp2
         rw [← HU.out]
         refine Rh.rb [0,1,2,3,4,5,6,7,8,9,10,11,12,13,14,15,16,17,18,19,20,21,22,23,24,25,26,27,28,29,30] ?_
         repeat (first | (refine Rh.Steps.sk ?_;simp only [Act.put,sA,sB,sC]) | (refine Rh.Steps.pu (v:=?_) ?_ ?_;rotate_left;(intro w_ hS_;have hk_:=hF w_ hS_;go_simp<;>with_reducible rfl);simp only [Act.put,sA,sB,sC]) | (refine Rh.Steps.ca (v:=?_) (f:=?_) (args:=?_) ?_ ?_ ?_;rotate_left 3;(intro w_ hS_;have hk_:=hF w_ hS_;go_simp<;>first | with_reducible rfl | (constructor<;>with_reducible rfl));(intro w_ hS_;have hk_:=hF w_ hS_;first | (go_at_call 24;(first | with_reducible refine (get_is G1 (HD.out w_ hS_).1.free (Nat.le_trans (smX_right HY.out).free (by decide))).mono ?_ | with_reducible refine (get_is G4 (HD.out w_ hS_).2.free (Nat.le_trans (smX_right HK.out.right).free (by decide))).mono ?_ | with_reducible refine (get_is G2 (HD.out w_ hS_).1.inn (Nat.le_trans (smX_right HY.out).inn (by decide))).mono ?_ | with_reducible refine (get_is G5 (HD.out w_ hS_).2.inn (Nat.le_trans (smX_right HK.out.right).inn (by decide))).mono ?_ | with_reducible refine (get_is G3 (HD.out w_ hS_).1.out (Nat.le_trans (smX_right HY.out).out (by decide))).mono ?_ | with_reducible refine (get_is G6 (HD.out w_ hS_).2.out (Nat.le_trans (smX_right HK.out.right).out (by decide))).mono ?_);first | (rintro e w_ ⟨rfl,rfl⟩;refine ⟨?_,Below.refl _ _⟩;with_reducible rfl) | (rintro e w_ ⟨rfl,hb_⟩;refine ⟨?_,hb_⟩;with_reducible rfl)));simp only [Act.put,sA,sB,sC]))
         refine Rh.Steps.nil (by kernel_rfl) ?_
         intro w9 hb9 _
         have hf:=nx HBU.out hb9
         clear hF n1 n2 n3
         go_wp2
         go_roundw
         case rel=>exact ⟨s+1,by omega,by go_num,hf⟩
         case measure=>simp [intOf];omega
        ·obtain rfl : s=4:=by omega
         obtain ⟨r1,e1⟩ : ∃ r,Se.last (k : Int) y.sess=r:=⟨_,rfl⟩
         have G1:=lH e1
         have G2:=lH (HFr.out.2.2.2.trans e1)
         have n1 : (r1 != r1)=false:=by simp
         obtain ⟨W3,hW3⟩ : ∃ W : World,W=wr:=⟨_,rfl⟩
         subst hW3
         have HBW:=lH hb
         have hF : ∀ u,Below W3.heap.size W3 u→u.cell? ⟨bx,2,none⟩=some (.slice p3 y.sess.length q3)∧u.cell? ⟨b,2,none⟩=some (.slice s3 A.1.sess.length t3):=fun u hu=>by
          obtain ⟨k1,k2,-,-⟩:=HF.out u (nx HBW.out hu)
          exact ⟨k1.cells.2.2.1,k2.cells.2.2.1⟩
         clear hb e1 hlt3 hs
         go_wp2
         refine Rf.rg [0,1,2,3,4,5,6,7,8] ?_
         repeat (first | (refine Rf.Steps.sk ?_;simp only [Act.put,sA,sB,sC]) | (refine Rf.Steps.pu (v:=?_) ?_ ?_;rotate_left;(intro w_ hS_;have hk_:=hF w_ hS_;go_simp<;>with_reducible rfl);simp only [Act.put,sA,sB,sC]) | (refine Rf.Steps.ca (v:=?_) (f:=?_) (args:=?_) ?_ ?_ ?_;rotate_left 3;(intro w_ hS_;have hk_:=hF w_ hS_;go_simp<;>first | with_reducible rfl | (constructor<;>with_reducible rfl));(intro w_ hS_;have hk_:=hF w_ hS_;first | (go_at_call 25;(first | with_reducible refine (Se.last_is G1 (HF.out w_ (nx HBW.out hS_)).1.d.sess (Nat.le_trans (smX_right HY.out).sess (by decide))).mono ?_ | with_reducible refine (Se.last_is G2 (HF.out w_ (nx HBW.out hS_)).2.1.d.sess (Nat.le_trans (smX_right HK.out.right).sess (by decide))).mono ?_);first | (rintro e w_ ⟨rfl,rfl⟩;refine ⟨?_,Below.refl _ _⟩;with_reducible rfl) | (rintro e w_ ⟨rfl,hb_⟩;refine ⟨?_,hb_⟩;with_reducible rfl)));simp only [Act.put,sA,sB,sC]))
         refine Rf.Steps.nil (by kernel_rfl) ?_
         intro w9 hb9
         have hf:=nx HBW.out hb9
         clear hF n1
         go_wp2
         go_roundw
         case rel=>exact ⟨k+1,by omega,by go_num,hf⟩
         case measure=>simp [intOf];omega
      ·obtain rfl : k=6:=by omega
       clear hlt hk
       go_wp2_with fail
       refine (awake_any wr).mono ?_
       rintro e w9 ⟨rfl,hb9⟩
       have hf:=nx HBM.out (nx hb hb9)
       go_wp2
       go_ret
       exact ⟨rfl,hf⟩
end Go.Proofs.YtjhocpcpkemcaaaGreat.Ex
