/- Layer 3: amounts, their sums, differences, products: plain functions. -/
import Derived.Test.YtjhocpcpkemcaaaGreatQeZZ
import Derived.WalkKit
set_option linter.unusedVariables false
set_option maxRecDepth 16000
set_option maxHeartbeats 32000000
namespace Go.Proofs.YtjhocpcpkemcaaaGreat.Mo
def may (a:Int):Bool:=decide (0≤a∧a≤1125899906842624)
theorem may_of {a:Int} (h:0≤a∧a≤1125899906842624):may a=true:=decide_eq_true h
theorem may_no {a:Int} (h:¬ (0≤a∧a≤1125899906842624)):may a=false:=decide_eq_false h
theorem may_iff {a:Int}:may a=true ↔ 0≤a∧a≤1125899906842624:=by simp [may]
def tot:List Int→Int→Int × Int
 | [],s=>(s,0)
 | n :: r,s=>if may n=true then (if 1125899906842624 - s<n then (0,6) else tot r (s+n)) else (0,1)
def totS (l:List Int):Int:=(tot l 0).1
def totE (l:List Int):Int:=(tot l 0).2
def add2 (a b:Int):Int × Int:=if may a=true∧may b=true then (if 1125899906842624 - a<b then (0,6) else (a+b,0)) else (0,1)
theorem tot2 (a b:Int):tot [a,b] 0=add2 a b:=by
 unfold add2
 by_cases ha:may a=true
 ·have:=may_iff.1 ha
  by_cases hb:may b=true
  ·simp only [tot,ha,hb,if_true,and_self,Int.sub_zero,Int.zero_add]
   rw [if_neg (by omega)]
  ·simp only [tot,ha,hb,if_true,Int.sub_zero,Int.zero_add]
   rw [if_neg (by omega)];rfl
 ·simp only [tot,ha];rfl
def addS (a b:Int):Int:=(add2 a b).1
def addE (a b:Int):Int:=(add2 a b).2
def sub2 (a b:Int):Int × Int:=if may a=true∧may b=true then (if a<b then (0,7) else (a - b,0)) else (0,1)
def subS (a b:Int):Int:=(sub2 a b).1
def subE (a b:Int):Int:=(sub2 a b).2
end Go.Proofs.YtjhocpcpkemcaaaGreat.Mo
namespace Go.Proofs.YtjhocpcpkemcaaaGreat.Ac
open Mo (may may_iff)
abbrev Pu:=Int × Int
abbrev Hd:=Int × Int × Int
def key (h:Hd):Pu:=(h.1,h.2.1)
def amt (h:Hd):Int:=h.2.2
def pless (a b:Pu):Bool:=if a.1=b.1 then decide (a.2<b.2) else decide (a.1<b.1)
theorem pless_iff {a b:Pu}:pless a b=true ↔ a.1<b.1∨a.1=b.1∧a.2<b.2:=by
 unfold pless;split<;>simp<;>omega
theorem pless_trans {a b c:Pu} (h:pless a b=true) (k:pless b c=true):pless a c=true:=by
 have:=pless_iff.1 h;have:=pless_iff.1 k;exact pless_iff.2 (by omega)
theorem pless_irrefl (a:Pu):pless a a=false:=by
 cases h:pless a a
 ·rfl
 ·have:=pless_iff.1 h;omega
theorem pless_asymm {a b:Pu} (h:pless a b=true):pless b a=false:=by
 cases k:pless b a
 ·rfl
 ·have:=pless_iff.1 h;have:=pless_iff.1 k;omega
theorem pless_tri {a b:Pu} (h:pless a b=false) (k:pless b a=false):a=b:=by
 have h1:¬ (a.1<b.1∨a.1=b.1∧a.2<b.2):=fun x=>by rw [pless_iff.2 x] at h;cases h
 have h2:¬ (b.1<a.1∨b.1=a.1∧b.2<a.2):=fun x=>by rw [pless_iff.2 x] at k;cases k
 exact Prod.ext (by omega) (by omega)
def pmay (p:Pu):Bool:=decide (0≤p.1∧p.1<64∧0≤p.2∧p.2<8)
theorem pmay_iff {p:Pu}:pmay p=true ↔ 0≤p.1∧p.1<64∧0≤p.2∧p.2<8:=by simp [pmay]
def good (h:Hd):Bool:=pmay (key h)&&decide (1≤amt h)&&may (amt h)
theorem good_iff {h:Hd}:good h=true ↔ pmay (key h)=true∧1≤amt h∧amt h≤1125899906842624:=by
 unfold good
 simp only [Bool.and_eq_true,decide_eq_true_eq,may_iff]
 constructor
 ·rintro ⟨⟨a,b⟩,c⟩;exact ⟨a,b,c.2⟩
 ·rintro ⟨a,b,c⟩;exact ⟨⟨a,b⟩,by omega,c⟩
def z3:Hd:=(0,0,0)
def okAt (l:List Hd) (i:Nat):Bool:=good (l.getD i z3)&&(decide (i=0)||pless (key (l.getD (i - 1) z3)) (key (l.getD i z3)))
def rightTo (l:List Hd) (n:Nat):Bool:=(List.range n).all (okAt l)
def right (l:List Hd):Bool:=rightTo l l.length
theorem rightTo_succ (l:List Hd) (n:Nat):rightTo l (n+1)=(rightTo l n&&okAt l n):=by
 unfold rightTo;rw [List.range_succ,List.all_append];simp
theorem rightTo_iff {l:List Hd} {n:Nat}:rightTo l n=true ↔ ∀ i,i<n→okAt l i=true:=by
 unfold rightTo;rw [List.all_eq_true]
 exact ⟨fun h i hi=>h i (List.mem_range.2 hi),fun h i hi=>h i (List.mem_range.1 hi)⟩
theorem right_no {l:List Hd} (i:Nat) (hi:i<l.length) (h:okAt l i=false):right l=false:=by
 cases e:right l
 ·rfl
 ·have:=rightTo_iff.1 e i hi;rw [this] at h;cases h
def Right (l:List Hd):Prop:=(∀ h∈l,good h=true)∧l.Pairwise fun a b=>pless (key a) (key b)=true
theorem Right.nil:Right []:=⟨by simp,List.Pairwise.nil⟩
theorem Right.cons {h:Hd} {l:List Hd}:Right (h :: l) ↔ good h=true∧(∀ k∈l,pless (key h) (key k)=true)∧Right l:=by
 unfold Right
 rw [List.pairwise_cons]
 constructor
 ·rintro ⟨a,b,c⟩;exact ⟨a h List.mem_cons_self,b,fun k hk=>a k (List.mem_cons_of_mem _ hk),c⟩
 ·rintro ⟨a,b,c,d⟩
  refine ⟨fun k hk=>?_,b,d⟩
  rcases List.mem_cons.1 hk with rfl | hk
  ·exact a
  ·exact c k hk
theorem getD_at {l:List Hd} {i:Nat} (h:i<l.length):l.getD i z3=l[i]:=by
 rw [List.getD_eq_getElem?_getD,List.getElem?_eq_getElem h];rfl
theorem right_iff {l:List Hd}:right l=true ↔ Right l:=by
 unfold right
 rw [rightTo_iff]
 constructor
 ·intro h
  have hg:∀ i,(hi:i<l.length)→good l[i]=true:=fun i hi=>by
   have:=h i hi
   unfold okAt at this
   rw [Bool.and_eq_true,getD_at hi] at this
   exact this.1
  have hs:∀ i,(hi:i+1<l.length)→pless (key l[i]) (key l[i+1])=true:=fun i hi=>by
   have:=h (i+1) hi
   unfold okAt at this
   rw [Bool.and_eq_true,Nat.add_sub_cancel,getD_at hi,getD_at (show i<l.length by omega)] at this
   simpa using this.2
  refine ⟨fun x hx=>?_,List.pairwise_iff_getElem.2 ?_⟩
  ·obtain ⟨i,hi,rfl⟩:=List.getElem_of_mem hx;exact hg i hi
  ·intro i j hi hj hij
   have key2:∀ d,(hd:i+1+d<l.length)→pless (key l[i]) (key l[i+1+d])=true:=by
    intro d
    induction d with
    | zero=>intro hd;exact hs i hd
    | succ d ih=>intro hd;exact pless_trans (ih (by omega)) (hs (i+1+d) hd)
   have:=key2 (j - (i+1)) (by omega)
   have e:i+1+(j - (i+1))=j:=by omega
   simpa only [e] using this
 ·rintro ⟨hg,hs⟩ i hi
  unfold okAt
  rw [Bool.and_eq_true,getD_at hi]
  refine ⟨hg _ (List.getElem_mem hi),?_⟩
  by_cases e:i=0
  ·simp [e]
  ·rw [getD_at (show i - 1<l.length by omega),List.pairwise_iff_getElem.1 hs (i - 1) i (by omega) hi (by omega),Bool.or_true]
def get:List Hd→Pu→Int
 | [],_=>0
 | h :: l,p=>if key h=p then amt h else get l p
theorem get_none {l:List Hd} {p:Pu} (h:∀ k∈l,key k≠p):get l p=0:=by
 induction l with
 | nil=>rfl
 | cons k l ih=>rw [get,if_neg (h k List.mem_cons_self)];exact ih fun x hx=>h x (List.mem_cons_of_mem _ hx)
theorem get_pos {l:List Hd} {p:Pu} (hr:Right l):0≤get l p∧get l p≤1125899906842624∧(get l p≠0→pmay p=true):=by
 induction l with
 | nil=>exact ⟨Int.le_refl _,by rw [get];omega,fun h=>absurd rfl h⟩
 | cons k l ih =>
  obtain ⟨a,b,c⟩:=Right.cons.1 hr
  rw [get]
  by_cases e:key k=p
  ·rw [if_pos e]
   have g:=good_iff.1 a
   exact ⟨by omega,g.2.2,fun _=>e ▸ g.1⟩
  ·rw [if_neg e];exact ih c
theorem get_mem {l:List Hd} (hr:Right l) {h:Hd} (hm:h∈l):get l (key h)=amt h:=by
 induction l with
 | nil=>cases hm
 | cons k l ih =>
  obtain ⟨a,b,c⟩:=Right.cons.1 hr
  rw [get]
  rcases List.mem_cons.1 hm with rfl | hm
  ·rw [if_pos rfl]
  ·have:=b h hm
   rw [if_neg (fun e=>by rw [e,pless_irrefl] at this;cases this)]
   exact ih c hm
theorem right_ext:∀ {l m:List Hd},Right l→Right m→(∀ q,get l q=get m q)→l=m
 | [],[],_,_,_=>rfl
 | [],k :: m,_,hm,h=>by
  obtain ⟨a,b,c⟩:=Right.cons.1 hm
  have:=h (key k)
  rw [get,get,if_pos rfl] at this
  have:=(good_iff.1 a).2.1;omega
 | k :: l,[],hl,_,h=>by
  obtain ⟨a,b,c⟩:=Right.cons.1 hl
  have:=h (key k)
  rw [get,get,if_pos rfl] at this
  have:=(good_iff.1 a).2.1;omega
 | x :: l,y :: m,hl,hm,h=>by
  obtain ⟨ax,bx,cx⟩:=Right.cons.1 hl
  obtain ⟨ay,by_,cy⟩:=Right.cons.1 hm
  have gx:=(good_iff.1 ax).2.1
  have gy:=(good_iff.1 ay).2.1
  have nolow:∀ {a:Hd} {r:List Hd} {p:Pu},(∀ k∈r,pless (key a) (key k)=true)→(pless p (key a)=true)→get r p=0:=fun {a r p} hb hp=>get_none fun k hk e=>by
   have h1:=hb k hk
   rw [e] at h1
   rw [pless_asymm hp] at h1;cases h1
  have e:key x=key y:=by
   cases h1:pless (key x) (key y)
   ·cases h2:pless (key y) (key x)
    ·exact pless_tri h1 h2
    ·have:=h (key y)
     have ne:key x≠key y:=fun e=>by rw [e,pless_irrefl] at h2;cases h2
     rw [get,if_neg ne,nolow bx h2,get,if_pos rfl] at this;omega
   ·have:=h (key x)
    have ne:key y≠key x:=fun e=>by rw [e,pless_irrefl] at h1;cases h1
    rw [get,if_pos rfl,get,if_neg ne,nolow by_ h1] at this;omega
  have ea:amt x=amt y:=by
   have:=h (key x)
   rwa [get,if_pos rfl,get,if_pos e.symm] at this
  have exy:x=y:=by
   obtain ⟨x1,x2,x3⟩:=x
   obtain ⟨y1,y2,y3⟩:=y
   simp only [key,amt,Prod.mk.injEq] at e ea
   rw [e.1,e.2,ea]
  subst exy
  rw [right_ext cx cy fun q=>?_]
  by_cases eq:key x=q
  ·subst eq
   rw [get_none (l:=l) (fun k hk e2=>by have:=bx k hk;rw [e2,pless_irrefl] at this;cases this),get_none (l:=m) (fun k hk e2=>by have:=by_ k hk;rw [e2,pless_irrefl] at this;cases this)]
  ·have:=h q
   rwa [get,if_neg eq,get,if_neg eq] at this
def setF (p:Pu) (n:Int):List Hd→Bool→List Hd
 | [],d=>if d then [] else [(p.1,p.2,n)]
 | h :: r,d=>(if !d&&!pless (key h) p then [(p.1,p.2,n)] else [])++(if key h=p then [] else [h])++setF p n r (d||!pless (key h) p)
def set (l:List Hd) (p:Pu) (n:Int):List Hd:=setF p n l (n==0)
theorem mem_setF {p:Pu} {n:Int}:∀ {l:List Hd} {d:Bool} {x:Hd},x∈setF p n l d→(x∈l∧key x≠p)∨(d=false∧x=(p.1,p.2,n))
 | [],d,x,h=>by
  cases d
  ·simp [setF] at h;exact .inr ⟨rfl,h⟩
  ·simp [setF] at h
 | k :: r,d,x,h=>by
  rw [setF,List.mem_append,List.mem_append] at h
  rcases h with (h | h) | h
  ·cases d
   ·cases e:pless (key k) p
    ·rw [e] at h;simp at h;exact .inr ⟨rfl,h⟩
    ·rw [e] at h;simp at h
   ·simp at h
  ·by_cases e:key k=p
   ·rw [if_pos e] at h;cases h
   ·rw [if_neg e] at h;simp at h;subst h;exact .inl ⟨List.mem_cons_self,e⟩
  ·rcases mem_setF h with ⟨a,b⟩ | ⟨a,b⟩
   ·exact .inl ⟨List.mem_cons_of_mem _ a,b⟩
   ·rw [Bool.or_eq_false_iff] at a;exact .inr ⟨a.1,b⟩
theorem setF_done (p:Pu) (n:Int) (l:List Hd):setF p n l true=l.filter fun h=>decide (key h≠p):=by
 induction l with
 | nil=>rfl
 | cons h r ih =>
  rw [setF,Bool.true_or,ih]
  by_cases e:key h=p
  ·simp [e]
  ·simp [e]
theorem right_filter {l:List Hd} (hr:Right l) (f:Hd→Bool):Right (l.filter f) :=
 ⟨fun h hm=>hr.1 h (List.mem_filter.1 hm).1,hr.2.filter f⟩
theorem get_filter {l:List Hd} (p q:Pu):get (l.filter fun h=>decide (key h≠p)) q=if q=p then 0 else get l q:=by
 induction l with
 | nil=>simp [get]
 | cons h r ih =>
  by_cases e:key h=p
  ·rw [List.filter_cons_of_neg (by simp [e]),ih,get]
   by_cases e2:q=p
   ·rw [if_pos e2,if_pos e2]
   ·rw [if_neg e2,if_neg e2,if_neg (fun x=>e2 (by rw [← x,e]))]
  ·rw [List.filter_cons_of_pos (by simp [e]),get,ih,get]
   by_cases e2:q=p
   ·rw [if_pos e2,if_pos e2,if_neg (fun x=>e (by rw [x,e2]))]
   ·rw [if_neg e2,if_neg e2]
theorem key_mk (p:Pu) (n:Int):key (p.1,p.2,n)=p:=rfl
theorem filter_self {l:List Hd} {p:Pu} (h:∀ k∈l,key k≠p):(l.filter fun x=>decide (key x≠p))=l:=List.filter_eq_self.2 fun k hk=>by simpa using h k hk
theorem right_setF {p:Pu} {n:Int} (hp:pmay p=true) (h1:1≤n) (h2:n≤1125899906842624):∀ {l:List Hd},Right l→Right (setF p n l false)∧∀ q,get (setF p n l false) q=if q=p then n else get l q
 | [],_=>by
  refine ⟨Right.cons.2 ⟨good_iff.2 ⟨hp,h1,h2⟩,by simp,Right.nil⟩,fun q=>?_⟩
  show (if p=q then n else 0)=if q=p then n else 0
  by_cases e:q=p
  ·rw [if_pos e.symm,if_pos e]
  ·rw [if_neg (fun x=>e x.symm),if_neg e]
 | h :: r,hr=>by
  obtain ⟨a,b,c⟩:=Right.cons.1 hr
  rw [setF,Bool.not_false,Bool.true_and,Bool.false_or]
  cases e:pless (key h) p
  ·rw [Bool.not_false,if_pos rfl,setF_done]
   have hlow:∀ k∈r,key k≠p:=fun k hk x=>by
    have:=b k hk;rw [x,e] at this;cases this
   rw [filter_self hlow]
   by_cases e2:key h=p
   ·rw [if_pos e2,List.append_nil,List.singleton_append]
    refine ⟨Right.cons.2 ⟨good_iff.2 ⟨hp,h1,h2⟩,fun k hk=>by rw [key_mk,← e2];exact b k hk,c⟩,fun q=>?_⟩
    rw [get,key_mk,get]
    by_cases e3:q=p
    ·rw [if_pos e3.symm,if_pos e3];rfl
    ·rw [if_neg (fun x=>e3 x.symm),if_neg e3,if_neg (fun x=>e3 (by rw [← x,e2]))]
   ·have hph:pless p (key h)=true:=by
     cases e3:pless p (key h)
     ·exact absurd (pless_tri e e3) e2
     ·rfl
    rw [if_neg e2]
    show Right ((p.1,p.2,n) :: h :: r)∧∀ q,get ((p.1,p.2,n) :: h :: r) q=if q=p then n else get (h :: r) q
    refine ⟨Right.cons.2 ⟨good_iff.2 ⟨hp,h1,h2⟩,fun k hk=>?_,hr⟩,fun q=>?_⟩
    ·rw [key_mk]
     rcases List.mem_cons.1 hk with rfl | hk
     ·exact hph
     ·exact pless_trans hph (b k hk)
    ·rw [get,key_mk]
     by_cases e3:q=p
     ·rw [if_pos e3.symm,if_pos e3];rfl
     ·rw [if_neg (fun x=>e3 x.symm),if_neg e3]
  ·have hne:key h≠p:=fun x=>by rw [x,pless_irrefl] at e;cases e
   obtain ⟨x,y⟩:=right_setF hp h1 h2 c
   rw [Bool.not_true,if_neg (by decide),if_neg hne,List.nil_append,List.singleton_append]
   refine ⟨Right.cons.2 ⟨a,fun k hk=>?_,x⟩,fun q=>?_⟩
   ·rcases mem_setF hk with ⟨hk,_⟩ | ⟨_,rfl⟩
    ·exact b k hk
    ·rw [key_mk];exact e
   ·rw [get,y q,get]
    by_cases e3:q=p
    ·rw [if_pos e3,if_pos e3,if_neg (fun x=>hne (by rw [x,e3]))]
    ·rw [if_neg e3,if_neg e3]
theorem right_set {l:List Hd} {p:Pu} {n:Int} (hr:Right l) (hp:pmay p=true) (h1:0≤n) (h2:n≤1125899906842624):Right (set l p n)∧∀ q,get (set l p n) q=if q=p then n else get l q:=by
 unfold set
 by_cases e:n=0
 ·subst e
  show Right (setF p 0 l true)∧∀ q,get (setF p 0 l true) q=if q=p then 0 else get l q
  rw [setF_done]
  exact ⟨right_filter hr _,fun q=>get_filter p q⟩
 ·have e2:(n==0)=false:=by simpa using e
  rw [e2]
  exact right_setF hp (by omega) h2 hr
theorem set_unique {l m:List Hd} {p:Pu} {n:Int} (hr:Right l) (hp:pmay p=true) (h1:0≤n) (h2:n≤1125899906842624) (hm:Right m) (hg:∀ q,get m q=if q=p then n else get l q):m=set l p n:=by
 obtain ⟨a,b⟩:=right_set hr hp h1 h2
 exact right_ext hm a fun q=>by rw [hg q,b q]
def tot (s:Int):List Hd→Int
 | []=>0
 | h :: r=>(if h.2.1=s then amt h else 0)+tot s r
theorem tot_app (s:Int) (l m:List Hd):tot s (l++m)=tot s l+tot s m:=by
 induction l with
 | nil=>rw [List.nil_append,tot,Int.zero_add]
 | cons h r ih=>rw [List.cons_append,tot,tot,ih,Int.add_assoc]
theorem tot_filter {l:List Hd} (hr:Right l) (s:Int) (p:Pu):tot s (l.filter fun h=>decide (key h≠p))=tot s l - (if p.2=s then get l p else 0):=by
 induction l with
 | nil=>simp [tot,get]
 | cons h r ih =>
  obtain ⟨a,b,c⟩:=Right.cons.1 hr
  by_cases e:key h=p
  ·have hn:∀ k∈r,key k≠p:=fun k hk x=>by have:=b k hk;rw [e,x,pless_irrefl] at this;cases this
   rw [List.filter_cons_of_neg (by simp [e]),filter_self hn,tot,get,if_pos e]
   have:p.2=h.2.1:=by rw [← e];rfl
   rw [this];split<;>omega
  ·rw [List.filter_cons_of_pos (by simp [e]),tot,tot,ih c,get,if_neg e];omega
theorem tot_setF {p:Pu} {n:Int} (s:Int):∀ {l:List Hd},Right l→tot s (setF p n l false)=tot s l+(if p.2=s then n - get l p else 0)
 | [],_=>by
  show tot s [(p.1,p.2,n)]=_
  rw [tot,tot,tot,get]
  show (if p.2=s then n else 0)+0=_
  split<;>omega
 | h :: r,hr=>by
  obtain ⟨a,b,c⟩:=Right.cons.1 hr
  rw [setF,Bool.not_false,Bool.true_and,Bool.false_or]
  cases e:pless (key h) p
  ·rw [Bool.not_false,if_pos rfl,setF_done]
   have hlow:∀ k∈r,key k≠p:=fun k hk x=>by
    have:=b k hk;rw [x,e] at this;cases this
   rw [filter_self hlow]
   by_cases e2:key h=p
   ·rw [if_pos e2,List.append_nil,List.singleton_append,tot,tot,get,if_pos e2]
    have:p.2=h.2.1:=by rw [← e2];rfl
    show (if p.2=s then n else 0)+_=_
    rw [this];split<;>omega
   ·rw [if_neg e2]
    show tot s ((p.1,p.2,n) :: h :: r)=_
    rw [tot,get,if_neg e2,get_none hlow]
    show (if p.2=s then n else 0)+_=_
    split<;>omega
  ·have hne:key h≠p:=fun x=>by rw [x,pless_irrefl] at e;cases e
   rw [Bool.not_true,if_neg (by decide),if_neg hne,List.nil_append,List.singleton_append,tot,tot,tot_setF s c,get,if_neg hne]
   omega
theorem tot_set {l:List Hd} {p:Pu} {n:Int} (hr:Right l) (s:Int):tot s (set l p n)=tot s l+(if p.2=s then n - get l p else 0):=by
 unfold set
 by_cases e:n=0
 ·subst e
  show tot s (setF p 0 l true)=_
  rw [setF_done,tot_filter hr];split<;>omega
 ·have e2:(n==0)=false:=by simpa using e
  rw [e2];exact tot_setF s hr
end Go.Proofs.YtjhocpcpkemcaaaGreat.Ac
namespace Go.Proofs.YtjhocpcpkemcaaaGreat.Ac
open Mo (may may_iff addS addE subS subE add2 sub2)
def total (l:List Hd) (s:Int):Int:=if right l then tot s l else 0
def giveE (l:List Hd) (p:Pu) (n:Int):Int:=if right l&&pmay p&&may n then addE (get l p) n else 1
def giveL (l:List Hd) (p:Pu) (n:Int):List Hd:=if giveE l p n=0 then set l p (addS (get l p) n) else l
def takeE (l:List Hd) (p:Pu) (n:Int):Int:=if right l&&pmay p&&may n then subE (get l p) n else 1
def takeL (l:List Hd) (p:Pu) (n:Int):List Hd:=if takeE l p n=0 then set l p (subS (get l p) n) else l
theorem add_ok {a b:Int} (h:addE a b=0):addS a b=a+b∧0≤a∧0≤b∧a+b≤1125899906842624:=by
 unfold addE at h
 unfold addS
 unfold add2 at h ⊢
 by_cases c:may a=true∧may b=true
 ·rw [if_pos c] at h ⊢
  have h1:=may_iff.1 c.1
  have h2:=may_iff.1 c.2
  by_cases d:1125899906842624 - a<b
  ·rw [if_pos d] at h;exact absurd h (by decide)
  ·rw [if_neg d];exact ⟨rfl,h1.1,h2.1,by omega⟩
 ·rw [if_neg c] at h;exact absurd h (by decide)
theorem sub_ok {a b:Int} (ha:0≤b) (hb:b≤a) (hm:a≤1125899906842624):subE a b=0∧subS a b=a - b:=by
 have h1:may a=true:=may_iff.2 ⟨by omega,hm⟩
 have h2:may b=true:=may_iff.2 ⟨ha,by omega⟩
 unfold subE subS sub2
 rw [if_pos ⟨h1,h2⟩,if_neg (by omega)]
 exact ⟨rfl,rfl⟩
theorem give_ok {l:List Hd} {p:Pu} {n:Int} (h:giveE l p n=0):Right l∧pmay p=true∧0≤n∧0≤get l p∧get l p+n≤1125899906842624∧giveL l p n=set l p (get l p+n):=by
 have h':=h
 unfold giveE at h
 by_cases c:(right l&&pmay p&&may n)=true
 ·rw [if_pos c] at h
  simp only [Bool.and_eq_true] at c
  have k:=add_ok h
  have hr:=right_iff.1 c.1.1
  refine ⟨hr,c.1.2,(may_iff.1 c.2).1,k.2.1,k.2.2.2,?_⟩
  unfold giveL;rw [h',if_pos rfl,k.1]
 ·rw [if_neg c] at h;exact absurd h (by decide)
theorem give_plays {l:List Hd} {p:Pu} {n:Int} (hr:Right l) (hp:pmay p=true):(giveE l p n=0 ↔ 0≤n∧n≤1125899906842624 - get l p):=by
 obtain ⟨g0,g1,_⟩:=get_pos (p:=p) hr
 constructor
 ·intro h
  have:=give_ok h
  omega
 ·intro h
  have hn:may n=true:=may_iff.2 ⟨h.1,by omega⟩
  have hg:may (get l p)=true:=may_iff.2 ⟨g0,g1⟩
  unfold giveE
  rw [right_iff.2 hr,hp,hn,if_pos (by rfl)]
  unfold addE add2
  rw [if_pos ⟨hg,hn⟩]
  rw [if_neg (by omega)]
theorem take_plays {l:List Hd} {p:Pu} {n:Int} (hr:Right l) (hp:pmay p=true):(takeE l p n=0 ↔ 0≤n∧n≤get l p):=by
 obtain ⟨g0,g1,_⟩:=get_pos (p:=p) hr
 constructor
 ·intro h
  unfold takeE at h
  by_cases c:may n=true
  ·have:=may_iff.1 c
   rw [right_iff.2 hr,hp,c,if_pos (by rfl)] at h
   have hg:may (get l p)=true:=may_iff.2 ⟨g0,g1⟩
   unfold subE sub2 at h
   rw [if_pos ⟨hg,c⟩] at h
   refine ⟨this.1,?_⟩
   by_cases d:get l p<n
   ·rw [if_pos d] at h;exact absurd h (by decide)
   ·omega
  ·rw [right_iff.2 hr,hp] at h
   have c:may n=false:=by simpa using c
   rw [c,if_neg (by simp)] at h
   exact absurd h (by decide)
 ·intro h
  have hn:may n=true:=may_iff.2 ⟨h.1,by omega⟩
  unfold takeE
  rw [right_iff.2 hr,hp,hn,if_pos (by rfl)]
  exact (sub_ok h.1 h.2 g1).1
theorem give_none {l:List Hd} {p:Pu} {n:Int} (h:¬ giveE l p n=0):giveL l p n=l:=by unfold giveL;rw [if_neg h]
theorem take_none {l:List Hd} {p:Pu} {n:Int} (h:¬ takeE l p n=0):takeL l p n=l:=by unfold takeL;rw [if_neg h]
theorem give_done {l:List Hd} {p:Pu} {n:Int} (h:giveE l p n=0):Right (giveL l p n)∧(∀ q,get (giveL l p n) q=if q=p then get l p+n else get l q)∧∀ s,tot s (giveL l p n)=tot s l+(if p.2=s then n else 0):=by
 obtain ⟨hr,hp,hn,hg,hs,e⟩:=give_ok h
 rw [e]
 obtain ⟨r1,g1⟩:=right_set hr hp (show 0≤get l p+n by omega) hs
 refine ⟨r1,g1,fun s=>?_⟩
 rw [tot_set hr]
 have:get l p+n - get l p=n:=by omega
 rw [this]
theorem take_done {l:List Hd} {p:Pu} {n:Int} (hr:Right l) (hp:pmay p=true) (h:takeE l p n=0):Right (takeL l p n)∧(∀ q,get (takeL l p n) q=if q=p then get l p - n else get l q)∧∀ s,tot s (takeL l p n)=tot s l - (if p.2=s then n else 0):=by
 obtain ⟨g0,g1,_⟩:=get_pos (p:=p) hr
 have hb:=(take_plays hr hp).1 h
 have e:takeL l p n=set l p (get l p - n):=by
  unfold takeL;rw [if_pos h,(sub_ok hb.1 hb.2 g1).2]
 rw [e]
 obtain ⟨r1,g2⟩:=right_set hr hp (show 0≤get l p - n by omega) (by omega)
 refine ⟨r1,g2,fun s=>?_⟩
 rw [tot_set hr]
 split<;>omega
theorem total_right {l:List Hd} (hr:Right l) (s:Int):total l s=tot s l:=by
 unfold total;rw [right_iff.2 hr,if_pos rfl]
theorem right_len:∀ {l:List Hd} (m:Int),Right l→(∀ h∈l,m≤h.1*8+h.2.1)→m≤512→(l.length:Int)≤512 - m
 | [],m,_,_,hm=>by simp;omega
 | h :: r,m,hr,hb,_=>by
  obtain ⟨a,b,c⟩:=Right.cons.1 hr
  have g:=pmay_iff.1 (good_iff.1 a).1
  have g1:0≤h.1∧h.1<64∧0≤h.2.1∧h.2.1<8:=g
  have hm:=hb h List.mem_cons_self
  have:=right_len (h.1*8+h.2.1+1) c (fun k hk=>by
   have p:=pless_iff.1 (b k hk)
   have p1:h.1<k.1∨h.1=k.1∧h.2.1<k.2.1:=p
   have q:=pmay_iff.1 (good_iff.1 (c.1 k hk)).1
   have q1:0≤k.1∧k.1<64∧0≤k.2.1∧k.2.1<8:=q
   omega) (by omega)
  rw [List.length_cons];omega
theorem right_512 {l:List Hd} (hr:Right l):l.length≤512:=by
 have:=right_len 0 hr (fun h hh=>by
  have q:=pmay_iff.1 (good_iff.1 (hr.1 h hh)).1
  have q1:0≤h.1∧h.1<64∧0≤h.2.1∧h.2.1<8:=q
  omega) (by omega)
 omega
end Go.Proofs.YtjhocpcpkemcaaaGreat.Ac
