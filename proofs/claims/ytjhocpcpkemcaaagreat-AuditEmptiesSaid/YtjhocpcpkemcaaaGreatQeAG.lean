/- Plain mathematics of layer 11: sessions. -/
import Derived.Test.YtjhocpcpkemcaaaGreatQeZZ
import Derived.WalkKit
set_option linter.unusedVariables false
set_option maxRecDepth 16000
set_option maxHeartbeats 32000000
namespace Go.Proofs.YtjhocpcpkemcaaaGreat.Se
abbrev Rp:=Int × Int × Int × Int × Int
abbrev Sn:=Int × Int × Rp
def okS (s:Sn):Bool:=decide (0≤s.1∧s.1<64∧1≤s.2.1∧s.2.1≤1125899906842624∧s.2.2.1=s.1∧s.2.2.2.1=s.2.1)
theorem okS_iff {s:Sn}:okS s=true ↔ 0≤s.1∧s.1<64∧1≤s.2.1∧s.2.1≤1125899906842624∧s.2.2.1=s.1∧s.2.2.2.1=s.2.1:=by simp [okS]
def z5:Rp:=(0,0,0,0,0)
def z7:Sn:=(0,0,z5)
def okAt (l:List Sn) (i:Nat):Bool:=okS (l.getD i z7)&&(decide (i=0)||decide ((l.getD (i - 1) z7).1<(l.getD i z7).1))
def rightTo (l:List Sn) (n:Nat):Bool:=(List.range n).all (okAt l)
def right (l:List Sn):Bool:=rightTo l l.length
theorem rightTo_succ (l:List Sn) (n:Nat):rightTo l (n+1)=(rightTo l n&&okAt l n):=by
 unfold rightTo;rw [List.range_succ,List.all_append];simp
theorem rightTo_iff {l:List Sn} {n:Nat}:rightTo l n=true ↔ ∀ i,i<n→okAt l i=true:=by
 unfold rightTo;rw [List.all_eq_true]
 exact ⟨fun h i hi=>h i (List.mem_range.2 hi),fun h i hi=>h i (List.mem_range.1 hi)⟩
theorem right_no {l:List Sn} (i:Nat) (hi:i<l.length) (h:okAt l i=false):right l=false:=by
 cases e:right l
 ·rfl
 ·have:=rightTo_iff.1 e i hi;rw [this] at h;cases h
def Right (l:List Sn):Prop:=(∀ s∈l,okS s=true)∧l.Pairwise fun a b=>a.1<b.1
theorem Right.nil:Right []:=⟨by simp,List.Pairwise.nil⟩
theorem Right.cons {s:Sn} {l:List Sn}:Right (s :: l) ↔ okS s=true∧(∀ x∈l,s.1<x.1)∧Right l:=by
 unfold Right
 rw [List.pairwise_cons]
 constructor
 ·rintro ⟨a,b,c⟩;exact ⟨a s List.mem_cons_self,b,fun x hx=>a x (List.mem_cons_of_mem _ hx),c⟩
 ·rintro ⟨a,b,c,d⟩
  refine ⟨fun x hx=>?_,b,d⟩
  rcases List.mem_cons.1 hx with rfl | hx
  ·exact a
  ·exact c x hx
theorem rightTo_cons {s x:Sn} {l:List Sn}:right (s :: x :: l)=true ↔ okS s=true∧s.1<x.1∧right (x :: l)=true:=by
 unfold right
 rw [rightTo_iff,rightTo_iff]
 constructor
 ·intro h
  have h0:=h 0 (by simp)
  have h1:=h 1 (by simp)
  simp [okAt] at h0 h1
  refine ⟨h0,h1.2,fun i hi=>?_⟩
  have hs:=h (i+1) (by simp at hi ⊢;omega)
  cases i with
  | zero=>simp [okAt] at hs ⊢;exact hs.1
  | succ k=>simp [okAt] at hs ⊢;exact hs
 ·rintro ⟨h0,h1,h2⟩ i hi
  cases i with
  | zero=>simp [okAt];exact h0
  | succ k =>
   have hk:=h2 k (by simp at hi ⊢;omega)
   cases k with
   | zero=>simp [okAt] at hk ⊢;exact ⟨hk,h1⟩
   | succ j=>simp [okAt] at hk ⊢;exact hk
theorem right_iff:∀ {l:List Sn},right l=true ↔ Right l
 | []=>⟨fun _=>Right.nil,fun _=>rfl⟩
 | [s]=>by
  rw [Right.cons]
  constructor
  ·intro h
   have h0:=rightTo_iff.1 h 0 (by simp)
   simp [okAt] at h0
   exact ⟨h0,by simp,Right.nil⟩
  ·intro h
   refine rightTo_iff.2 fun i hi=>?_
   obtain rfl:i=0:=by simp at hi;omega
   simp [okAt];exact h.1
 | s :: x :: l=>by
  rw [rightTo_cons,right_iff (l:=x :: l),Right.cons (s:=s)]
  constructor
  ·rintro ⟨a,b,c⟩
   refine ⟨a,fun y hy=>?_,c⟩
   rcases List.mem_cons.1 hy with rfl | hy
   ·exact b
   ·have:=(Right.cons.1 c).2.1 y hy;omega
  ·rintro ⟨a,b,c⟩
   exact ⟨a,b x List.mem_cons_self,c⟩
def fnd (c:Int):List Sn→Option Sn
 | []=>none
 | s :: r=>if s.1=c then some s else fnd c r
def last (c:Int) (l:List Sn):Int:=match fnd c l with | none=>0 | some s=>s.2.1
def look (c q:Int) (l:List Sn):Rp × Int:=match fnd c l with
 | none=>(z5,8)
 | some s=>if s.2.1<q then (z5,8) else if q<s.2.1 then (z5,13) else (s.2.2,0)
def mk (r:Rp):Sn:=(r.1,r.2.1,r)
def putF (s:Sn):List Sn→Bool→List Sn
 | [],d=>if d then [] else [s]
 | x :: r,d=>(if (!d&&decide (s.1≤x.1))=true then [s] else [])++((if x.1≠s.1 then [x] else [])++putF s r (d||decide (s.1≤x.1)))
def put (s:Sn) (l:List Sn):List Sn:=putF s l false
def noteE (l:List Sn) (r:Rp):Int:=if (right l&&okS (mk r))=true then (if r.2.1≤last r.1 l then 13 else 0) else 1
def noteL (l:List Sn) (r:Rp):List Sn:=if noteE l r=0 then put (mk r) l else l
theorem putF_done (s:Sn):∀ l:List Sn,putF s l true=l.filter fun x=>decide (x.1≠s.1)
 | []=>rfl
 | x :: r=>by
  rw [putF,Bool.true_or,putF_done s r]
  by_cases e:x.1=s.1
  ·rw [List.filter_cons_of_neg (by simp [e])];simp [e]
  ·rw [List.filter_cons_of_pos (by simp [e])];simp [e]
theorem filter_above {s:Sn} {l:List Sn} (h:∀ x∈l,s.1<x.1):(l.filter fun x=>decide (x.1≠s.1))=l :=
 List.filter_eq_self.2 fun x hx=>by have:=h x hx;simp;omega
theorem put_cons {s x:Sn} {r:List Sn} (h:Right (x :: r)):put s (x :: r)=if s.1<x.1 then s :: x :: r else if s.1=x.1 then s :: r else x :: put s r:=by
 obtain ⟨_,h2,_⟩:=Right.cons.1 h
 unfold put
 rw [putF,Bool.not_false,Bool.true_and,Bool.false_or]
 by_cases c1:s.1<x.1
 ·have d:decide (s.1≤x.1)=true:=decide_eq_true (by omega)
  rw [if_pos c1,d,if_pos rfl,putF_done,filter_above (fun y hy=>by have:=h2 y hy;omega),if_pos (by omega)]
  rfl
 ·by_cases c2:s.1=x.1
  ·have d:decide (s.1≤x.1)=true:=decide_eq_true (by omega)
   rw [if_neg c1,if_pos c2,d,if_pos rfl,putF_done,filter_above (fun y hy=>by have:=h2 y hy;omega),if_neg (by omega)]
   rfl
  ·have d:decide (s.1≤x.1)=false:=decide_eq_false (by omega)
   rw [if_neg c1,if_neg c2,d,if_neg (by decide),if_pos (by omega)]
   rfl
theorem put_mem {s:Sn}:∀ {l:List Sn} {y:Sn},Right l→y∈put s l→y=s∨y∈l
 | [],y,_,h=>by
  have:y∈[s]:=h
  exact .inl (List.mem_singleton.1 this)
 | x :: r,y,hr,h=>by
  rw [put_cons hr] at h
  split at h
  ·exact List.mem_cons.1 h
  ·split at h
   ·exact (List.mem_cons.1 h).imp id (List.mem_cons_of_mem _)
   ·rcases List.mem_cons.1 h with rfl | h
    ·exact .inr List.mem_cons_self
    ·exact (put_mem (Right.cons.1 hr).2.2 h).imp id (List.mem_cons_of_mem _)
theorem right_put {s:Sn} (hs:okS s=true):∀ {l:List Sn},Right l→Right (put s l)
 | [],_=>Right.cons.2 ⟨hs,by simp,Right.nil⟩
 | x :: r,hr=>by
  obtain ⟨h1,h2,h3⟩:=Right.cons.1 hr
  rw [put_cons hr]
  split
  ·rename_i c
   exact Right.cons.2 ⟨hs,fun y hy=>by
    rcases List.mem_cons.1 hy with rfl | hy
    ·exact c
    ·have:=h2 y hy;omega,hr⟩
  ·split
   ·rename_i c
    exact Right.cons.2 ⟨hs,fun y hy=>by have:=h2 y hy;omega,h3⟩
   ·refine Right.cons.2 ⟨h1,fun y hy=>?_,right_put hs h3⟩
    rcases put_mem h3 hy with rfl | hy
    ·omega
    ·exact h2 y hy
theorem fnd_low {c:Int}:∀ {l:List Sn},(∀ x∈l,c<x.1)→fnd c l=none
 | [],_=>rfl
 | x :: r,h=>by
  rw [fnd,if_neg (by have:=h x List.mem_cons_self;omega)]
  exact fnd_low fun y hy=>h y (List.mem_cons_of_mem _ hy)
theorem fnd_put {s:Sn} (c:Int):∀ {l:List Sn},Right l→fnd c (put s l)=if s.1=c then some s else fnd c l
 | [],_=>rfl
 | x :: r,hr=>by
  obtain ⟨_,h2,h3⟩:=Right.cons.1 hr
  rw [put_cons hr]
  split
  ·rfl
  ·split
   ·rename_i e
    rw [fnd,fnd]
    by_cases k:s.1=c
    ·rw [if_pos k,if_pos k]
    ·rw [if_neg k,if_neg k,if_neg (by omega)]
   ·rw [fnd,fnd,fnd_put c h3]
    by_cases k:x.1=c
    ·rw [if_pos k,if_pos k,if_neg (by omega)]
    ·rw [if_neg k,if_neg k]
theorem right_ext:∀ {l m:List Sn},Right l→Right m→(∀ c,fnd c l=fnd c m)→l=m
 | [],[],_,_,_=>rfl
 | [],y :: m,_,_,h=>by have:=h y.1;rw [fnd,fnd,if_pos rfl] at this;cases this
 | x :: l,[],_,_,h=>by have:=h x.1;rw [fnd,fnd,if_pos rfl] at this;cases this
 | x :: l,y :: m,hl,hm,h=>by
  obtain ⟨_,a2,a3⟩:=Right.cons.1 hl
  obtain ⟨_,b2,b3⟩:=Right.cons.1 hm
  have e1:=h x.1
  have e2:=h y.1
  rw [fnd,if_pos rfl,fnd] at e1
  rw [fnd,fnd,if_pos rfl] at e2
  have e:x=y:=by
   by_cases k:y.1=x.1
   ·rw [if_pos k] at e1;exact Option.some.inj e1
   ·exfalso
    rw [if_neg k] at e1
    rw [if_neg (fun k'=>k k'.symm)] at e2
    by_cases lt:x.1<y.1
    ·rw [fnd_low (fun z hz=>by have:=b2 z hz;omega)] at e1;cases e1
    ·rw [fnd_low (fun z hz=>by have:=a2 z hz;omega)] at e2;cases e2
  subst e
  refine congrArg (x :: ·) (right_ext a3 b3 fun c=>?_)
  have ec:=h c
  rw [fnd,fnd] at ec
  by_cases k:x.1=c
  ·rw [fnd_low (fun z hz=>by have:=a2 z hz;omega),fnd_low (fun z hz=>by have:=b2 z hz;omega)]
  ·rwa [if_neg k,if_neg k] at ec
end Go.Proofs.YtjhocpcpkemcaaaGreat.Se
