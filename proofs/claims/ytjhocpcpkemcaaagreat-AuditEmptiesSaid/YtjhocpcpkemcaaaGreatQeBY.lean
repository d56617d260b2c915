/- Plain mathematics of layer 13: what is owed is little; orders cancelled, what is owed collected: then all is free. -/
import Derived.Test.YtjhocpcpkemcaaaGreatQeZZ
import Derived.Test.YtjhocpcpkemcaaaGreatQeBQ
import Derived.Test.YtjhocpcpkemcaaaGreatQeBX
import Derived.Test.YtjhocpcpkemcaaaGreatQeBP
import Derived.Test.YtjhocpcpkemcaaaGreatQeAZ
import Derived.Test.YtjhocpcpkemcaaaGreatQeBU
import Derived.Test.YtjhocpcpkemcaaaGreatQeAP
import Derived.Deep.Slices
import Derived.Deep.Fields
import Derived.ChangeSame
import Derived.OpenShut
import Derived.Test.YtjhocpcpkemcaaaGreatQeAY
import Derived.Deep.DeepCutAuto
set_option linter.unusedVariables false
set_option maxRecDepth 16000
set_option maxHeartbeats 32000000
namespace Go.Proofs.YtjhocpcpkemcaaaGreat.Au
open Bk (Bk Fl sumQ tr_wout argOk argOk_iff place rightB_iff RightB fndB cancel_cases cntB)
open Le (Lv Od flat hasId oid fnd_mem fnd_none omay_iff)
open La (Ln RightN rightN rightN_iff placeN cancelN collectN rsv allO okO_of payF getF stl sumP astF ndA ndN ndN_bd nodup_all fndB_mem fills_of)
open Ac (Hd Pu tot total giveE giveL takeE takeL pmay pmay_iff)
open Se (Rp mk)
open Cm (chkE chkB laneB v9 limB lim_eq)
open Ex
theorem pay_bd {s:Int} {f:Fl} (h:0≤f.2.2.1∧f.2.2.1≤1048576∧0≤f.2.2.2.1∧f.2.2.2.1≤1048576):0≤payF s f∧payF s f≤1048576*f.2.2.2.1:=by
 unfold payF
 split
 ·exact ⟨Int.mul_nonneg h.1 h.2.2.1,Int.mul_le_mul_of_nonneg_right h.2.1 h.2.2.1⟩
 ·omega
theorem sumP_bd {s:Int}:∀ {fs:List Fl},(∀ f∈fs,0≤f.2.2.1∧f.2.2.1≤1048576∧0≤f.2.2.2.1∧f.2.2.2.1≤1048576)→0≤sumP s fs∧sumP s fs≤1048576*sumQ fs
 | [],_=>⟨Int.le_refl _,Int.le_refl _⟩
 | f :: r,h=>by
  have i:=sumP_bd (s:=s) (fs:=r) fun x hx=>h x (List.mem_cons_of_mem _ hx)
  have p:=pay_bd (s:=s) (h f List.mem_cons_self)
  have e:sumQ (f :: r)=f.2.2.2.1+sumQ r:=by unfold sumQ;rw [List.map_cons,List.sum_cons]
  rw [sumP,e];omega
theorem stl_le {b q s:Int} (u:Pu):∀ {fs:List Fl} {ow:List Hd} {p g:Int},(∀ f∈fs,0≤payF s f)→Ac.get (stl b q s fs ow p g).1 u≤Ac.get ow u+sumP s fs∧0≤sumP s fs
 | [],ow,p,g,_=>by
  show Ac.get ow u≤Ac.get ow u+0∧(0:Int)≤0
  omega
 | f :: r,ow,p,g,h=>by
  have h1:=h f List.mem_cons_self
  rw [stl,sumP]
  by_cases e:giveE ow (f.2.1,astF b q s) (payF s f)=0
  ·rw [if_pos e]
   have i:=stl_le (b:=b) (q:=q) u (fs:=r) (ow:=giveL ow (f.2.1,astF b q s) (payF s f)) (p:=p+payF s f) (g:=g+getF s f) fun x hx=>h x (List.mem_cons_of_mem _ hx)
   have k:=give_get (l:=ow) (p:=(f.2.1,astF b q s)) (n:=payF s f) u
   by_cases c:giveE ow (f.2.1,astF b q s) (payF s f)=0∧u=(f.2.1,astF b q s)
   ·rw [if_pos c] at k;rw [← c.2] at k i ⊢;omega
   ·rw [if_neg c] at k;omega
  ·rw [if_neg e]
   have i:=stl_le (b:=b) (q:=q) u (fs:=r) (ow:=ow) (p:=p) (g:=g) fun x hx=>h x (List.mem_cons_of_mem _ hx)
   show Ac.get ow u≤_∧_
   omega
theorem place_q {b:Bk} {ow s p n:Int} {rest:Bool} (h:RightB b) (he:(place b ow s p n rest).2.2.2.2=0):(∀ f∈(place b ow s p n rest).2.1,0≤f.2.2.1∧f.2.2.1≤1048576∧0≤f.2.2.2.1∧f.2.2.2.1≤1048576)∧sumQ (place b ow s p n rest).2.1≤1048576:=by
 unfold place at he ⊢
 rw [rightB_iff.2 h,Bool.true_and] at he ⊢
 cases ha:argOk ow s p n
 ·rw [ha,if_neg (by decide)] at he;exact absurd (show (1:Int)=0 from he) (by decide)
 rw [ha,if_pos rfl] at he
 rw [if_pos rfl]
 have hA:=argOk_iff.1 ha
 cases ht:Bk.tr ow s p (flat (Bk.oth b s)) n with
 | none=>rw [ht] at he;exact absurd (show (11:Int)=0 from he) (by decide)
 | some x =>
  obtain ⟨fs,lf⟩:=x
  rw [ht] at he
  simp only at he ⊢
  obtain ⟨k1,k2,k3,k4,k5⟩:=tr_wout h hA.2.2.1 (by omega) ht
  obtain ⟨f1,f2,f3,f4⟩:=fills_of h hA.2.2.1 (by omega) hA.2.2.2.2.2.2 k3
  have hs:sumQ fs≤1048576:=by have:=k3.sum;have:=k3.nn;omega
  by_cases hr:rest=true∧0<lf
  ·rw [if_pos hr] at he ⊢
   by_cases hf:40≤(cntB b:Int) - (Bk.dn fs:Nat)∨b.2.2=1073741824
   ·rw [if_pos hf] at he;exact absurd (show (10:Int)=0 from he) (by decide)
   ·rw [if_neg hf];exact ⟨f3,hs⟩
  ·rw [if_neg hr];exact ⟨f3,hs⟩
theorem fin_owed (l:Ln) (fr:List Hd) (ow s p:Int) (C:Bk.Pl) (S:List Hd × Int × Int × Int):(La.fin l fr ow s p C S).1.2.2.2=S.1∨(La.fin l fr ow s p C S).1.2.2.2=l.2.2.2:=by
 unfold La.fin
 simp only
 generalize (if s=2 then l.1 else l.2.1)=ua
 generalize (if s=2 then l.2.1 else l.1)=ga
 generalize S.2.1+(if 0<C.2.2.2.1 then La.ndN s p C.2.2.1 else 0)=P
 by_cases h1:takeE fr (ow,ua) P=0
 ·rw [if_pos h1]
  by_cases h2:giveE (takeL fr (ow,ua) P) (ow,ga) S.2.2.1=0
  ·rw [if_pos h2];exact .inl rfl
  ·rw [if_neg h2];exact .inr rfl
 ·rw [if_neg h1];exact .inr rfl
theorem place_owed {l:Ln} {fr:List Hd} (h:RightN l) (ow s p n:Int) (rest:Bool) (u:Pu):Ac.get (placeN l fr ow s p n rest).1.2.2.2 u≤Ac.get l.2.2.2 u+1099511627776:=by
 unfold placeN
 split
 ·simp only
  by_cases h1:(place l.2.2.1 ow s p n rest).2.2.2.2=0
  ·rw [if_pos h1]
   obtain ⟨q1,q2⟩:=place_q h.book h1
   by_cases h2:(stl l.1 l.2.1 s (place l.2.2.1 ow s p n rest).2.1 l.2.2.2 0 0).2.2.2=0
   ·rw [if_pos h2]
    have k:=stl_le (b:=l.1) (q:=l.2.1) (s:=s) u (fs:=(place l.2.2.1 ow s p n rest).2.1) (ow:=l.2.2.2) (p:=0) (g:=0) fun f hf=>(pay_bd (q1 f hf)).1
    have m:=sumP_bd (s:=s) q1
    rcases fin_owed l fr ow s p (place l.2.2.1 ow s p n rest) (stl l.1 l.2.1 s (place l.2.2.1 ow s p n rest).2.1 l.2.2.2 0 0) with e | e<;>rw [e]<;>omega
   ·rw [if_neg h2];show Ac.get l.2.2.2 u≤_;omega
  ·rw [if_neg h1];show Ac.get l.2.2.2 u≤_;omega
 ·show Ac.get l.2.2.2 u≤_;omega
theorem uniq {b:Bk} (h:RightB b) {o x:Od} (ho:o∈allO b) (hx:x∈allO b) (e:o.1=x.1):o=x:=by
 have h1:=fnd_mem (nodup_all h) ho
 have h2:=fnd_mem (nodup_all h) hx
 rw [e,h2] at h1
 exact (Option.some.inj h1).symm
theorem fndB_none {b:Bk} {id:Int} (h:fndB b id=none):∀ o∈allO b,o.1≠id:=fun o ho=>by
 unfold fndB at h
 cases e:Le.fnd (flat b.1) id with
 | some x=>rw [e] at h;cases h
 | none =>
  rw [e] at h
  rcases List.mem_append.1 ho with h1 | h1
  ·exact fnd_none.1 e o h1
  ·exact fnd_none.1 h o h1
theorem may_of {b:Bk} (h:RightB b) {o:Od} (ho:o∈allO b):(1≤o.1∧o.1≤1073741824)∧(0≤o.2.1∧o.2.1<64):=by
 rcases List.mem_append.1 ho with h1 | h1
 ·have:=omay_iff.1 (Bk.mem_may h.buys h1);omega
 ·have:=omay_iff.1 (Bk.mem_may h.sells h1);omega
def Full (l:List Hd):Prop:=∃ u,562949953421312<Ac.get l u
theorem give_full {l:List Hd} {p:Pu} {n:Int} (h:Ac.Right l) (hp:pmay p=true) (h0:0≤n) (h1:n≤43980465111040) (he:¬ giveE l p n=0):562949953421312<Ac.get l p:=by
 rw [Ac.give_plays h hp] at he;omega
theorem give_mono {l:List Hd} {p:Pu} {n:Int} (u:Pu):Ac.get l u≤Ac.get (giveL l p n) u:=by
 rw [give_get]
 split
 ·rename_i c
  have:=(Ac.give_ok c.1).2.2.1
  rw [c.2];omega
 ·exact Int.le_refl _
structure CanK (l:Ln) (fr:List Hd) (ow id:Int) (R:Ln × List Hd × Int × Int):Prop where
 sub:∀ o∈allO R.1.2.2.1,o∈allO l.2.2.1
 owed:R.1.2.2.2=l.2.2.2
 free:∀ u,Ac.get fr u≤Ac.get R.2.1 u
 gone:Full R.2.1∨∀ o∈allO R.1.2.2.1,o.2.1=ow→o.1≠id
theorem cancel_k {l:Ln} {fr:List Hd} (h:RightN l) (hf:Ac.Right fr) (ow id:Int):CanK l fr ow id (cancelN l fr ow id):=by
 unfold cancelN
 rw [rightN_iff.2 h,Ac.right_iff.2 hf,if_pos (by rfl)]
 rcases cancel_cases (ow:=ow) (id:=id) h.book with ⟨h1,h2⟩ | ⟨o,h1,h0,h2⟩ | ⟨o,h1,h2,h3,h4,h5,h6,h7⟩
 ·rw [h2];exact ⟨fun _ ho=>ho,rfl,fun _=>Int.le_refl _,.inr fun o ho _=>fndB_none h1 o ho⟩
 ·rw [h2]
  obtain ⟨m1,m2⟩:=fndB_mem h1
  exact ⟨fun _ ho=>ho,rfl,fun _=>Int.le_refl _,.inr fun x hx hw e=>h0 (by rw [uniq h.book m1 hx (by rw [m2,e])];exact hw)⟩
 ·rw [h4]
  simp only [if_true]
  obtain ⟨m1,m2⟩:=fndB_mem h1
  have e:allO (Bk.remB l.2.2.1 o)=(allO l.2.2.1).filter fun x=>!hasId id x:=h6
  by_cases hg:giveE fr (ow,ndA l.1 l.2.1 o.2.2.1) (ndN o.2.2.1 o.2.2.2.1 o.2.2.2.2)=0
  ·rw [if_pos hg]
   refine ⟨fun x hx=>?_,rfl,fun u=>give_mono u,.inr fun x hx _ ex=>?_⟩
   ·rw [e] at hx;exact (List.mem_filter.1 hx).1
   ·rw [e] at hx
    have:=(List.mem_filter.1 hx).2
    unfold hasId at this
    simp [ex] at this
  ·rw [if_neg hg]
   refine ⟨fun _ ho=>ho,rfl,fun _=>Int.le_refl _,.inl ⟨_,give_full hf ?_ ?_ ?_ hg⟩⟩
   ·have:=(may_of h.book m1).2
    have hp:=La.pairOk_iff.1 h.pair
    rw [pmay_iff];simp only;unfold ndA;split<;>omega
   ·have:=okO_of h.book o m1
    unfold La.okO at this
    exact (ndN_bd this.1 this.2.1 this.2.2.1 this.2.2.2).1
   ·have:=okO_of h.book o m1
    unfold La.okO at this
    have:=(ndN_bd (s:=o.2.2.1) this.1 this.2.1 this.2.2.1 this.2.2.2).2
    omega
structure ColK (l:Ln) (fr:List Hd) (ow:Int) (R:Ln × List Hd × Int × Int × Int):Prop where
 book:R.1.2.2.1=l.2.2.1
 owed:∀ u,Ac.get R.1.2.2.2 u≤Ac.get l.2.2.2 u
 free:∀ u,Ac.get fr u≤Ac.get R.2.1 u
 gone:Full R.2.1∨∀ u:Pu,u.1=ow→Ac.get R.1.2.2.2 u=0
theorem take_le {l:List Hd} {p:Pu} {n:Int} (h:Ac.Right l) (hn:0≤n) (u:Pu):Ac.get (takeL l p n) u≤Ac.get l u:=by
 rw [(take_all h).2]
 split
 ·rename_i c;rw [c.2];omega
 ·exact Int.le_refl _
theorem collect_k {l:Ln} {fr:List Hd} (h:RightN l) (hf:Ac.Right fr) {ow:Int} (ho:0≤ow∧ow<64) (hB:∀ u,Ac.get l.2.2.2 u≤43980465111040):ColK l fr ow (collectN l fr ow):=by
 have k2:=(La.collectN_keep h hf ow).2.1
 have hp:=La.pairOk_iff.1 h.pair
 have hne:=La.ne_pair h
 have p1:pmay (ow,l.1)=true:=pmay_iff.2 ⟨ho.1,ho.2,by simp only;omega,by simp only;omega⟩
 have p2:pmay (ow,l.2.1)=true:=pmay_iff.2 ⟨ho.1,ho.2,by simp only;omega,by simp only;omega⟩
 obtain ⟨g1,_⟩:=Ac.get_pos (p:=(ow,l.1)) h.owed
 obtain ⟨g2,_⟩:=Ac.get_pos (p:=(ow,l.2.1)) h.owed
 have b1:=hB (ow,l.1)
 have b2:=hB (ow,l.2.1)
 unfold collectN at k2 ⊢
 rw [rightN_iff.2 h,Ac.right_iff.2 hf,if_pos (by rfl)] at k2 ⊢
 simp only at k2 ⊢
 by_cases h0:Ac.get l.2.2.2 (ow,l.1)=0∧Ac.get l.2.2.2 (ow,l.2.1)=0
 ·rw [if_pos h0]
  refine ⟨rfl,fun _=>Int.le_refl _,fun _=>Int.le_refl _,.inr fun u hu=>?_⟩
  by_cases e1:u.2=l.1
  ·rw [show u=(ow,l.1) from Prod.ext hu e1];exact h0.1
  ·by_cases e2:u.2=l.2.1
   ·rw [show u=(ow,l.2.1) from Prod.ext hu e2];exact h0.2
   ·exact (La.only_iff h.owed).1 h.only' u e1 e2
 ·rw [if_neg h0] at k2 ⊢
  by_cases e1:giveE fr (ow,l.1) (Ac.get l.2.2.2 (ow,l.1))=0
  ·rw [if_pos e1] at k2 ⊢
   by_cases e2:giveE (giveL fr (ow,l.1) (Ac.get l.2.2.2 (ow,l.1))) (ow,l.2.1) (Ac.get l.2.2.2 (ow,l.2.1))=0
   ·rw [if_pos e2] at k2 ⊢
    refine ⟨rfl,fun u=>?_,fun u=>Int.le_trans (give_mono u) (give_mono u),.inr (k2 rfl)⟩
    exact Int.le_trans (take_le (take_all h.owed).1 g2 u) (take_le h.owed g1 u)
   ·rw [if_neg e2]
    refine ⟨rfl,fun _=>Int.le_refl _,fun _=>Int.le_refl _,.inl ⟨(ow,l.2.1),?_⟩⟩
    have:=give_full (give_right hf) p2 g2 b2 e2
    rw [give_get,if_neg (fun e=>hne (by have:=congrArg Prod.snd e.2;simp only at this;exact this.symm))] at this
    exact this
  ·rw [if_neg e1]
   exact ⟨rfl,fun _=>Int.le_refl _,fun _=>Int.le_refl _,.inl ⟨_,give_full hf p1 g1 b1 e1⟩⟩
end Go.Proofs.YtjhocpcpkemcaaaGreat.Au
namespace Go.Proofs.YtjhocpcpkemcaaaGreat.Au
open Le (Lv Od flat)
open La (Ln RightN rightN rightN_iff cancelN collectN placeN reserved owedN rsv allO)
open Ac (Hd Pu tot total ofL)
open Se (Rp mk)
open Cm (chkE chkB laneB v9 limB lim_eq)
open Ex
def OwB (x:Xc) (B:Int):Prop:=∀ l∈x.lanes,∀ u,Ac.get l.2.2.2 u≤B
theorem collect_le {l:Ln} {fr:List Hd} (h:RightN l) {ow:Int} (u:Pu):Ac.get (collectN l fr ow).1.2.2.2 u≤Ac.get l.2.2.2 u:=by
 obtain ⟨g1,_⟩:=Ac.get_pos (p:=(ow,l.1)) h.owed
 obtain ⟨g2,_⟩:=Ac.get_pos (p:=(ow,l.2.1)) h.owed
 unfold collectN
 split
 ·simp only
  split
  ·exact Int.le_refl _
  ·split
   ·split
    ·exact Int.le_trans (take_le (take_all h.owed).1 g2 u) (take_le h.owed g1 u)
    ·exact Int.le_refl _
   ·exact Int.le_refl _
 ·exact Int.le_refl _
theorem act_owed {l:Ln} {fr:List Hd} (h:RightN l) (hf:Ac.Right fr) (c:Nat→Int) (u:Pu):Ac.get (act l fr c).1.2.2.2 u≤Ac.get l.2.2.2 u+1099511627776:=by
 unfold act
 split
 ·exact place_owed h _ _ _ _ _ u
 ·split
  ·show Ac.get (cancelN l fr (c 0) (c 5)).1.2.2.2 u≤_
   rw [(cancel_k h hf (c 0) (c 5)).owed];omega
  ·split
   ·show Ac.get (collectN l fr (c 0)).1.2.2.2 u≤_
    have e:=collect_le h (fr:=fr) (ow:=c 0) u
    omega
   ·show Ac.get l.2.2.2 u≤_;omega
theorem apply_lanes {x:Xc} (h:RightX x) (c:Nat→Int):(apply x c).1.lanes=x.lanes∨∃ i l,x.lanes[i]?=some l∧(apply x c).1.lanes=x.lanes.set i (act l x.free c).1:=by
 by_cases hc:chkE c=0
 ·by_cases h0:c 2=0
  ·rw [apply_zero h hc h0];exact .inl rfl
  ·rcases apply_cases h hc h0 with ⟨s,_,_,e⟩ | ⟨s,_,_,e⟩ | ⟨h1,ho,e⟩
   ·rw [e];exact .inl rfl
   ·rw [e];exact .inl rfl
   ·rw [e]
    show (exec x c).1.lanes=_∨∃ i l,_∧(exec x c).1.lanes=_
    unfold exec
    by_cases kl:laneB (c 2)=true
    ·rw [if_pos kl]
     unfold execL
     cases hl:x.lanes[(c 3).toNat]? with
     | none=>exact .inl rfl
     | some l=>exact .inr ⟨_,l,hl,rfl⟩
    ·rw [if_neg kl]
     left
     unfold execP
     split
     ·rfl
     ·split
      ·split
       ·split<;>rfl
       ·rfl
      ·split
       ·split
        ·split<;>rfl
        ·rfl
       ·rfl
 ·rw [apply_no hc];exact .inl rfl
theorem apply_owed {x:Xc} (h:RightX x) {B:Int} (hB:OwB x B) (h0:0≤B) (c:Nat→Int):OwB (apply x c).1 (B+1099511627776):=by
 intro m hm u
 rcases apply_lanes h c with e | ⟨i,l,hl,e⟩
 ·rw [e] at hm;have:=hB m hm u;omega
 ·rw [e] at hm
  rcases List.mem_or_eq_of_mem_set hm with h1 | rfl
  ·have:=hB m h1 u;omega
  ·have hm2:=List.mem_of_getElem? hl
   have:=act_owed (h.lane l hm2) h.free c u
   have:=hB l hm2 u
   omega
theorem run_owed:∀ (l:List Cd) {x:Xc} {B:Int},RightX x→OwB x B→0≤B→OwB (runX x l) (B+l.length*1099511627776)
 | [],_,B,_,h,_=>by rw [show B+(([]:List Cd).length:Nat)*1099511627776=B by simp];exact h
 | c :: r,x,B,h,hB,h0=>by
  have i:=run_owed r (apply_keep h c).right (apply_owed h hB h0 c) (by omega)
  rw [show B+((c :: r).length:Nat)*1099511627776=B+1099511627776+(r.length:Nat)*1099511627776 by rw [List.length_cons,Int.natCast_add,Int.add_mul];omega]
  exact i
theorem run_bal:∀ (l:List Cd) {x:Xc},RightX x→Bal x→Bal (runX x l)
 | [],_,_,h=>h
 | c :: r,_,h,hb=>run_bal r (apply_keep h c).right (apply_bal h hb c)
theorem apply_lane {x:Xc} (h:RightX x) {c:Nat→Int} (hc:chkE c=0) (hl:laneB (c 2)=true) (hs:Se.last (c 0) x.sess<c 1) {l:Ln} (hx:x.lanes[(c 3).toNat]?=some l) :
  ∃ s',Se.last (c 0) s'=c 1∧(apply x c).1={ x with lanes:=x.lanes.set (c 3).toNat (act l x.free c).1,free:=(act l x.free c).2.1,sess:=s' }:=by
 have h0:c 2≠0:=fun e=>by rw [e] at hl;exact absurd hl (by decide)
 rcases apply_cases h hc h0 with ⟨s,h1,h2,e⟩ | ⟨s,h1,h2,e⟩ | ⟨h1,ho,e⟩
 ·unfold Se.last at hs;rw [h1] at hs;simp only at hs;omega
 ·unfold Se.last at hs;rw [h1] at hs;simp only at hs;omega
 ·rw [e]
  have e2:(exec x c).1={ x with lanes:=x.lanes.set (c 3).toNat (act l x.free c).1,free:=(act l x.free c).2.1 }:=by
   unfold exec;rw [if_pos hl];unfold execL;rw [hx]
  refine ⟨Se.put (mk (rep c (exec x c).2)) x.sess,?_,?_⟩
  ·unfold Se.last
   rw [Se.fnd_put _ h.sess,if_pos (show (mk (rep c (exec x c).2)).1=c 0 from rfl)];rfl
  ·show ({ (exec x c).1 with sess:=Se.put (mk (rep c (exec x c).2)) x.sess }:Xc)=_
   rw [e2]
structure StepK (a q:Int) (x y:Xc):Prop where
 right:RightX y
 bal:Bal x→Bal y
 last:Se.last a y.sess=q
 free:∀ u,Ac.get x.free u≤Ac.get y.free u
 len:y.lanes.length=x.lanes.length
 ord:∀ (j:Nat) (l m:Ln),x.lanes[j]?=some l→y.lanes[j]?=some m→(∀ o∈allO m.2.2.1,o∈allO l.2.2.1)∧∀ u,Ac.get m.2.2.2 u≤Ac.get l.2.2.2 u
theorem step_of {x:Xc} (h:RightX x) {c:Nat→Int} (hc:chkE c=0) (hl:laneB (c 2)=true) (hs:Se.last (c 0) x.sess<c 1) {l:Ln} (hx:x.lanes[(c 3).toNat]?=some l)
  (h1:∀ o∈allO (act l x.free c).1.2.2.1,o∈allO l.2.2.1) (h2:∀ u,Ac.get (act l x.free c).1.2.2.2 u≤Ac.get l.2.2.2 u) (h3:∀ u,Ac.get x.free u≤Ac.get (act l x.free c).2.1 u) :
  StepK (c 0) (c 1) x (apply x c).1∧(apply x c).1.lanes[(c 3).toNat]?=some (act l x.free c).1∧(apply x c).1.free=(act l x.free c).2.1:=by
 obtain ⟨s',e1,e⟩:=apply_lane h hc hl hs hx
 have k:=apply_keep h c
 have hi:=(List.getElem?_eq_some_iff.1 hx).1
 refine ⟨⟨k.right,fun hb=>apply_bal h hb c,by rw [e];exact e1,fun u=>by rw [e];exact h3 u,k.len,fun j l' m hj hm=>?_⟩,by rw [e];exact List.getElem?_set_self hi,by rw [e]⟩
 rw [e] at hm
 by_cases hji:(c 3).toNat=j
 ·subst hji
  rw [hx] at hj
  obtain rfl:=Option.some.inj hj
  have hm:(x.lanes.set (c 3).toNat (act l x.free c).1)[(c 3).toNat]?=some m:=hm
  rw [List.getElem?_set_self hi] at hm
  obtain rfl:=Option.some.inj hm
  exact ⟨h1,h2⟩
 ·have hm:(x.lanes.set (c 3).toNat (act l x.free c).1)[j]?=some m:=hm
  rw [List.getElem?_set_ne hji,hj] at hm
  obtain rfl:=Option.some.inj hm
  exact ⟨fun _ ho=>ho,fun _=>Int.le_refl _⟩
def Clean (a:Int) (l:Ln):Prop:=(∀ o∈allO l.2.2.1,o.2.1≠a)∧∀ u:Pu,u.1=a→Ac.get l.2.2.2 u=0
def CleanAt (a:Int) (x:Xc) (j:Nat):Prop:=∀ l,x.lanes[j]?=some l→Clean a l
def Nothing (a:Int) (x:Xc):Prop:=∀ l∈x.lanes,Clean a l
theorem full_step {a q:Int} {x y:Xc} (k:StepK a q x y) (h:Full x.free):Full y.free:=by
 obtain ⟨u,hu⟩:=h;exact ⟨u,Int.lt_of_lt_of_le hu (k.free u)⟩
theorem clean_step {a q b:Int} {x y:Xc} (k:StepK a q x y) {j:Nat} (h:CleanAt b x j):CleanAt b y j:=fun m hm=>by
 have hj:j<x.lanes.length:=by rw [← k.len];exact (List.getElem?_eq_some_iff.1 hm).1
 have hl:x.lanes[j]?=some x.lanes[j]:=List.getElem?_eq_getElem hj
 obtain ⟨h1,h2⟩:=k.ord j _ m hl hm
 obtain ⟨c1,c2⟩:=h _ hl
 refine ⟨fun o ho=>c1 o (h1 o ho),fun u hu=>?_⟩
 have:=h2 u
 have:=c2 u hu
 have:=(Ac.get_pos (p:=u) (k.right.lane m (List.mem_of_getElem? hm)).owed).1
 omega
theorem nothing_iff {a:Int} {x:Xc}:Nothing a x ↔ ∀ j,CleanAt a x j:=by
 constructor
 ·intro h j l hl;exact h l (List.mem_of_getElem? hl)
 ·intro h l hl
  obtain ⟨j,hj,rfl⟩:=List.mem_iff_getElem.1 hl
  exact h j _ (List.getElem?_eq_getElem hj)
theorem nothing_step {a q b:Int} {x y:Xc} (k:StepK a q x y) (h:Nothing b x):Nothing b y:=nothing_iff.2 fun j=>clean_step k (nothing_iff.1 h j)
theorem owb_step {a q B:Int} {x y:Xc} (k:StepK a q x y) (h:OwB x B):OwB y B:=fun m hm u=>by
 obtain ⟨j,hj,rfl⟩:=List.mem_iff_getElem.1 hm
 have hj2:j<x.lanes.length:=by rw [← k.len];exact hj
 have h1:=(k.ord j _ _ (List.getElem?_eq_getElem hj2) (List.getElem?_eq_getElem hj)).2 u
 have h2:=h _ (List.getElem_mem hj2) u
 omega
abbrev cCan (a q i id:Int):Cd:=v9 a q 5 i 0 id 0 0 0
abbrev cCol (a q i:Int):Cd:=v9 a q 6 i 0 0 0 0 0
theorem chk_can {a q i id:Int} (ha:0≤a∧a<64) (hq:1≤q∧q≤1125899906842624) (hi:0≤i∧i≤5) (hd:0≤id∧id≤1073741824):chkE (cCan a q i id)=0:=by
 have:limB (cCan a q i id)=true:=(lim_eq _).2 ⟨⟨by show (1:Int)≤5;decide,by show (5:Int)≤8;decide⟩,⟨ha.1,by show a≤63;omega⟩,hq,hi,⟨by show (0:Int)≤0;decide,by show (0:Int)≤7;decide⟩,hd,⟨by show (0:Int)≤0;decide,by show (0:Int)≤2;decide⟩,⟨by show (0:Int)≤0;decide,by show (0:Int)≤_;decide⟩,⟨by show (0:Int)≤0;decide,by show (0:Int)≤_;decide⟩⟩
 unfold chkE chkB;rw [this,Bool.or_true];rfl
theorem chk_col {a q i:Int} (ha:0≤a∧a<64) (hq:1≤q∧q≤1125899906842624) (hi:0≤i∧i≤5):chkE (cCol a q i)=0:=by
 have:limB (cCol a q i)=true:=(lim_eq _).2 ⟨⟨by show (1:Int)≤6;decide,by show (6:Int)≤8;decide⟩,⟨ha.1,by show a≤63;omega⟩,hq,hi,⟨by show (0:Int)≤0;decide,by show (0:Int)≤7;decide⟩,⟨by show (0:Int)≤0;decide,by show (0:Int)≤_;decide⟩,⟨by show (0:Int)≤0;decide,by show (0:Int)≤2;decide⟩,⟨by show (0:Int)≤0;decide,by show (0:Int)≤_;decide⟩,⟨by show (0:Int)≤0;decide,by show (0:Int)≤_;decide⟩⟩
 unfold chkE chkB;rw [this,Bool.or_true];rfl
def Reach (a:Int) (x:Xc) (i:Nat) (os:List Od):Prop:=Full x.free∨((∀ j,j<i→CleanAt a x j)∧∀ l,x.lanes[i]?=some l→∀ o∈allO l.2.2.1,o.2.1=a→o∈os)
theorem can_step {x:Xc} (h:RightX x) {a q:Int} {i:Nat} {o:Od} {os:List Od} {l:Ln} (ha:0≤a∧a<64) (hs:Se.last a x.sess<q) (hq:1≤q∧q≤1125899906842624) (hi:i≤5) (hd:0≤o.1∧o.1≤1073741824) (hx:x.lanes[i]?=some l) (hr:Reach a x i (o :: os)) :
  StepK a q x (apply x (cCan a q i o.1)).1∧Reach a (apply x (cCan a q i o.1)).1 i os:=by
 have hm:=List.mem_of_getElem? hx
 have ck:=cancel_k (h.lane l hm) h.free a o.1
 have e:act l x.free (cCan a q i o.1)=((cancelN l x.free a o.1).1,(cancelN l x.free a o.1).2.1,(cancelN l x.free a o.1).2.2.2,(cancelN l x.free a o.1).2.2.1,0):=by
  unfold act;rw [if_neg (by show ¬ ((5:Int)=3∨(5:Int)=4);decide),if_pos (by show (5:Int)=5;rfl)];rfl
 have hii:((cCan a q i o.1) 3).toNat=i:=by show ((i:Int)).toNat=i;simp
 obtain ⟨k1,k2,k3⟩:=step_of (c:=cCan a q i o.1) h (chk_can ha hq ⟨by omega,by omega⟩ hd) (by show laneB 5=true;decide) hs (l:=l) (by rw [hii];exact hx)
  (by rw [e];exact ck.sub) (by rw [e];intro u;show Ac.get (cancelN l x.free a o.1).1.2.2.2 u≤_;rw [ck.owed];exact Int.le_refl _) (by rw [e];exact ck.free)
 rw [hii,e] at k2
 rw [e] at k3
 refine ⟨k1,?_⟩
 rcases hr with hf | ⟨r1,r2⟩
 ·exact .inl (full_step k1 hf)
 ·rcases ck.gone with g | g
  ·exact .inl (by rw [k3];exact g)
  ·refine .inr ⟨fun j hj=>clean_step k1 (r1 j hj),fun m hm2 o' ho' hw=>?_⟩
   rw [k2] at hm2
   obtain rfl:=Option.some.inj hm2
   rcases List.mem_cons.1 (r2 l hx o' (ck.sub o' ho') hw) with rfl | h1
   ·exact absurd rfl (g _ ho' hw)
   ·exact h1
theorem col_step {x:Xc} (h:RightX x) {a q:Int} {i:Nat} {l:Ln} (ha:0≤a∧a<64) (hs:Se.last a x.sess<q) (hq:1≤q∧q≤1125899906842624) (hi:i≤5) (hB:OwB x 43980465111040) (hx:x.lanes[i]?=some l) (hr:Reach a x i []) :
  StepK a q x (apply x (cCol a q i)).1∧(Full (apply x (cCol a q i)).1.free∨∀ j,j<i+1→CleanAt a (apply x (cCol a q i)).1 j):=by
 have hm:=List.mem_of_getElem? hx
 have ck:=collect_k (h.lane l hm) h.free ha (hB l hm)
 have e:act l x.free (cCol a q i)=((collectN l x.free a).1,(collectN l x.free a).2.1,(collectN l x.free a).2.2.2.2,(collectN l x.free a).2.2.1,(collectN l x.free a).2.2.2.1):=by
  unfold act;rw [if_neg (by show ¬ ((6:Int)=3∨(6:Int)=4);decide),if_neg (by show ¬ (6:Int)=5;decide),if_pos (by show (6:Int)=6;rfl)];rfl
 have hii:((cCol a q i) 3).toNat=i:=by show ((i:Int)).toNat=i;simp
 obtain ⟨k1,k2,k3⟩:=step_of (c:=cCol a q i) h (chk_col ha hq ⟨by omega,by omega⟩) (by show laneB 6=true;decide) hs (l:=l) (by rw [hii];exact hx)
  (by rw [e];intro o ho;have ho:o∈allO (collectN l x.free a).1.2.2.1:=ho;rw [ck.book] at ho;exact ho) (by rw [e];exact ck.owed) (by rw [e];exact ck.free)
 rw [hii,e] at k2
 rw [e] at k3
 refine ⟨k1,?_⟩
 rcases hr with hf | ⟨r1,r2⟩
 ·exact .inl (full_step k1 hf)
 ·rcases ck.gone with g | g
  ·exact .inl (by rw [k3];exact g)
  ·refine .inr fun j hj=>?_
   by_cases hji:j=i
   ·subst hji
    intro m hm2
    rw [k2] at hm2
    obtain rfl:=Option.some.inj hm2
    refine ⟨fun o ho hw=>?_,g⟩
    have ho:o∈allO (collectN l x.free a).1.2.2.1:=ho
    rw [ck.book] at ho
    exact nomatch r2 l hx o ho hw
   ·exact clean_step k1 (r1 j (by omega))
theorem reach_skip {a:Int} {x:Xc} {i:Nat} {o:Od} {os:List Od} (h:Reach a x i (o :: os)) (ho:o.2.1≠a):Reach a x i os:=by
 rcases h with h | ⟨h1,h2⟩
 ·exact .inl h
 ·refine .inr ⟨h1,fun l hl o' ho' hw=>?_⟩
  rcases List.mem_cons.1 (h2 l hl o' ho' hw) with rfl | h3
  ·exact absurd hw ho
  ·exact h3
theorem uses_none {a:Int}:∀ {L:List Ln},(∀ l∈L,RightN l)→(usesO a L=0∧usesH a L=0 ↔ ∀ l∈L,Clean a l)
 | [],_=>⟨fun _ _ h=>(nomatch h),fun _=>⟨rfl,rfl⟩⟩
 | l :: r,h=>by
  have i:=uses_none (a:=a) (L:=r) fun x hx=>h x (List.mem_cons_of_mem _ hx)
  have hr:=h l List.mem_cons_self
  have hc:(cntO a (flat l.2.2.1.1)+cntO a (flat l.2.2.1.2.1)=0∧(ofL l.2.2.2 a).length=0) ↔ Clean a l:=by
   have e1:cntO a (flat l.2.2.1.1)+cntO a (flat l.2.2.1.2.1)=cntO a (allO l.2.2.1):=by unfold allO;rw [cntO_app]
   rw [e1]
   unfold cntO Clean
   constructor
   ·rintro ⟨c1,c2⟩
    have c1:=List.eq_nil_of_length_eq_zero c1
    have c2:=List.eq_nil_of_length_eq_zero c2
    refine ⟨fun o ho hw=>?_,fun u hu=>?_⟩
    ·have:o∈(allO l.2.2.1).filter fun o=>o.2.1==a:=List.mem_filter.2 ⟨ho,by simp [hw]⟩
     rw [c1] at this;cases this
    ·by_cases e:Ac.get l.2.2.2 u=0
     ·exact e
     ·obtain ⟨k,hk,rfl⟩:=La.get_some e
      have:k∈ofL l.2.2.2 a:=List.mem_filter.2 ⟨hk,by have:k.1=a:=hu;simp [this]⟩
      rw [c2] at this;cases this
   ·rintro ⟨c1,c2⟩
    refine ⟨?_,?_⟩
    ·rw [List.length_eq_zero_iff,List.filter_eq_nil_iff]
     intro o ho;simpa using c1 o ho
    ·rw [List.length_eq_zero_iff]
     unfold ofL
     rw [List.filter_eq_nil_iff]
     intro k hk hw
     have hw:k.1=a:=by simpa using hw
     have h1:=c2 (Ac.key k) hw
     rw [Ac.get_mem hr.owed hk] at h1
     have:=(Ac.good_iff.1 (hr.owed.1 k hk)).2.1
     omega
  rw [usesO,usesH]
  constructor
  ·rintro ⟨h1,h2⟩ m hm
   rcases List.mem_cons.1 hm with rfl | hm
   ·exact hc.1 ⟨by omega,by omega⟩
   ·exact i.1 ⟨by omega,by omega⟩ m hm
  ·intro hh
   have h1:=hc.2 (hh l List.mem_cons_self)
   have h2:=i.2 fun m hm=>hh m (List.mem_cons_of_mem _ hm)
   omega
theorem all_free {x:Xc} (h:RightX x) (hb:Bal x) (hn:∀ a:Nat,a<64→Nothing a x) (s:Int):total x.inn s - total x.out s=total x.free s:=by
 have h0:∀ l∈x.lanes,reserved l s+owedN l s=0:=fun l hl=>by
  have hr:=h.lane l hl
  have e1:allO l.2.2.1=[]:=by
   cases e:allO l.2.2.1 with
   | nil=>rfl
   | cons o r =>
    have ho:o∈allO l.2.2.1:=by rw [e];exact List.mem_cons_self
    have:=(may_of hr.book ho).2
    exact absurd (show o.2.1=((o.2.1.toNat:Nat):Int) by omega) ((hn o.2.1.toNat (by omega) l hl).1 o ho)
  have e2:l.2.2.2=[]:=by
   cases e:l.2.2.2 with
   | nil=>rfl
   | cons k r =>
    have hk:k∈l.2.2.2:=by rw [e];exact List.mem_cons_self
    obtain ⟨p1,p2,_⟩:=Ac.good_iff.1 (hr.owed.1 k hk)
    have p3:=Ac.pmay_iff.1 p1
    have:=(hn (Ac.key k).1.toNat (by omega) l hl).2 (Ac.key k) (by omega)
    rw [Ac.get_mem hr.owed hk] at this
    omega
  rw [res_right hr,owed_right hr,e1,e2];rfl
 have h1:∀ L:List Ln,(∀ l∈L,reserved l s+owedN l s=0)→held s L=0:=fun L=>by
  induction L with
  | nil=>intro _;rfl
  | cons l r ih =>
   intro hh
   rw [held,hh l List.mem_cons_self,ih fun m hm=>hh m (List.mem_cons_of_mem _ hm)];rfl
 have h2:=hb s
 unfold balX at h2
 rw [h1 _ h0] at h2
 omega
def fullB (l:List Hd):Bool:=l.any fun h=>decide (562949953421312<h.2.2)
theorem fullB_iff {l:List Hd} (h:Ac.Right l):fullB l=true ↔ Full l:=by
 unfold fullB Full
 rw [List.any_eq_true]
 constructor
 ·rintro ⟨k,hk,e⟩
  refine ⟨Ac.key k,?_⟩
  rw [Ac.get_mem h hk]
  exact of_decide_eq_true e
 ·rintro ⟨u,hu⟩
  obtain ⟨k,hk,rfl⟩:=La.get_some (l:=l) (u:=u) (by omega)
  rw [Ac.get_mem h hk] at hu
  exact ⟨k,hk,decide_eq_true hu⟩
end Go.Proofs.YtjhocpcpkemcaaaGreat.Au
namespace Go.Proofs.YtjhocpcpkemcaaaGreat.Au
open Go.RowKit
open Rw
open Da
open Sl
open Ac (Hd Pu HL)
open Cm (fc fc_at v9)
open Se (ret_bool)
open Ex
theorem fullB_take {l:List Hd} {k:Nat} (h:k<l.length):fullB (l.take (k+1))=(fullB (l.take k)||decide (562949953421312<l[k].2.2)):=by
 unfold fullB;rw [Da.take_snoc h,List.any_append];simp
theorem fullB_le {l:List Hd} (k:Nat) (h:fullB (l.take k)=true):fullB l=true:=by
 unfold fullB at h ⊢
 rw [List.any_eq_true] at h ⊢
 obtain ⟨x,hx,e⟩:=h
 exact ⟨x,List.mem_of_mem_take hx,e⟩
theorem full_any (n:Nat) (x:Xc) (v:Value) (w:World) (h:XV n x v w) (hn:n≤w.heap.size) (hs:SmX x) :
  Calls Tryz.prog 37 #[v] w fun e w'=>e=.returned (.bool (fullB x.free))∧Below w.heap.size w w':=by
 obtain ⟨_,_,_,_,_,rfl,hd⟩:=h
 obtain ⟨a1,d1,a2,d2,a3,d3,a4,d4,a5,d5,rfl,rfl,rfl,rfl,rfl⟩:=hd.open'
 obtain ⟨N,q1⟩:∃ q,x.free.length=q:=⟨_,rfl⟩
 obtain ⟨n2,q2⟩:∃ q,x.lanes.length=q:=⟨_,rfl⟩
 obtain ⟨n3,q3⟩:∃ q,x.sess.length=q:=⟨_,rfl⟩
 obtain ⟨n4,q4⟩:∃ q,x.inn.length=q:=⟨_,rfl⟩
 obtain ⟨n5,q5⟩:∃ q,x.out.length=q:=⟨_,rfl⟩
 have hNs:=hd.free
 rw [q1,q2,q3,q4,q5] at hd ⊢
 rw [q1] at hNs
 have hm:N≤1000:=by rw [← q1];exact hs.free
 obtain ⟨L,hL⟩:∃ L,x.free=L:=⟨_,rfl⟩
 rw [hL] at hNs q1 ⊢
 obtain ⟨R,hR⟩:∃ R,fullB L=R:=⟨_,rfl⟩
 rw [hR]
 have HR:=lH hR
 have HN:=lH q1
 have HA:=lH hNs
 have hx0:=XB.made hd hn
 obtain ⟨r0,r1,r2,r3,r4⟩:=hx0.cells
 have HB0:=lH (below1 w (.cells #[.slice a1 N d1,.slice a2 n2 d2,.slice a3 n3 d3,.slice a4 n4 d4,.slice a5 n5 d5] 28))
 clear hd hs hL q1 q2 q3 q4 q5 hR hx0 hNs hn
 go_enter Tryz.func37,Tryz.ntmps37
 go_wp2
 clear r0 r1 r2 r3 r4
 go_loopw [8] (fun i wr=>∃ k:Nat,k≤N∧i=.int .i64 k∧fullB (L.take k)=false∧Below w.heap.size w wr) (fun i _=>N - (intOf i).toNat)
 case atStart=>exact ⟨0,Nat.zero_le _,rfl,rfl,HB0.out⟩
 case round =>
  obtain ⟨k,hk,rfl,hf,hb⟩:=hrel
  have HF:=lH hf
  clear hf
  by_cases hlt:k<N
  ·have hlt2:(k:Int)<N:=by omega
   have hkl:k<L.length:=by rw [HN.out];exact hlt
   rcases HA.out.cases with ⟨e,_⟩ | ⟨_,b,off,c,e,hat⟩
   ·rw [e] at hkl;cases hkl
   simp only [Value.slice.injEq] at e
   obtain ⟨rfl,-,rfl⟩:=e
   have hc:=Ac.at3 (hat.stays Ac.enc 3 hb) k hkl
   have hbb:b<wr.heap.size:=Nat.lt_of_lt_of_le hat.1 hb.size
   have hT:=fullB_take hkl
   obtain ⟨⟨y1,y2,y3⟩,hx⟩:∃ x,L[k]=x:=⟨_,rfl⟩
   rw [hx] at hc hT
   simp only at hc hT
   rw [HF.out,Bool.false_or] at hT
   obtain ⟨s0,s1,s2⟩:=hc
   have hb2:=nx hb (below1 wr (.cells #[.int .i64 y1,.int .i64 y2,.int .i64 y3] 52))
   obtain ⟨g,hg⟩:∃ g,decide ((562949953421312:Int)<y3)=g:=⟨_,rfl⟩
   rw [hg] at hT
   have HT:=lH hT
   clear hT hx hat
   cases g
   ·go_wp2
    go_roundw
    case rel=>exact ⟨k+1,by omega,by go_num,HT.out,hb2⟩
    case measure=>simp [intOf];omega
   ·have HQ:=lH (show R=true from by rw [← HR.out];exact fullB_le (k+1) HT.out)
    go_wp2
    go_ret
    exact ⟨ret_bool HQ.out.symm,hb2⟩
  ·obtain rfl:k=N:=by omega
   have HQ:=lH (show R=false from by rw [← HR.out,← HF.out,← HN.out,List.take_length])
   go_wp2
   go_ret
   exact ⟨ret_bool HQ.out.symm,hb⟩
theorem full_is {n:Nat} {x:Xc} {v:Value} {w:World} {r:Bool} (H:Hid (fullB x.free=r)) (h:XV n x v w) (hn:n≤w.heap.size) (hs:SmX x) :
  Calls Tryz.prog 37 #[v] w fun e w'=>e=.returned (.bool r)∧Below w.heap.size w w':=by
 rw [← H.out];exact full_any n x v w h hn hs
def isI:Value→Bool
 | .int .i64 _=>true
 | _=>false
theorem isI_at (n:Int):isI (.int .i64 n)=true:=rfl
theorem intOf_at (n:Int):intOf (.int .i64 n)=n:=rfl
section
variable (ρ:Operand→Value) (dst:Option Tmp) (ty:TypeId) (pos:String) (after:Array Edge) (guard:Option (Nat × Bool)) (w:World)
theorem isI_of {v:Value} (h:isI v=true):v=.int .i64 (intOf v):=by
 match v,h with
 | .int .i64 _,_=>rfl
theorem buildCan (a q i d:Int) (w:World):(Instr.build 35 #[(0,.int .i64 a),(1,.int .i64 q),(2,.int .i64 5),(3,.int .i64 i),(5,.int .i64 d)]).run Tryz.prog w=.ok (.agg (fc (cCan a q i d))) w:=run_build w _ _ _ (by kernel_rfl)
theorem buildCol (a q i:Int) (w:World):(Instr.build 35 #[(0,.int .i64 a),(1,.int .i64 q),(2,.int .i64 6),(3,.int .i64 i)]).run Tryz.prog w=.ok (.agg (fc (cCol a q i))) w:=run_build w _ _ _ (by kernel_rfl)
theorem exCan (p0 p1 p2 p3 p5:Operand) (h0:isI (ρ p0)=true) (h1:isI (ρ p1)=true) (h2:ρ p2=.int .i64 5) (h3:isI (ρ p3)=true) (h5:isI (ρ p5)=true) :
  (execOp ρ { dst,op:=.build 35 #[(0,p0),(1,p1),(2,p2),(3,p3),(5,p5)],type:=ty,pos,after,guard }).run Tryz.prog w=.ok (.value (.agg (fc (cCan (intOf (ρ p0)) (intOf (ρ p1)) (intOf (ρ p3)) (intOf (ρ p5)))))) w:=by
 have e0:=isI_of h0
 have e1:=isI_of h1
 have e3:=isI_of h3
 have e5:=isI_of h5
 generalize intOf (ρ p0)=x0 at *
 generalize intOf (ρ p1)=x1 at *
 generalize intOf (ρ p3)=x3 at *
 generalize intOf (ρ p5)=x5 at *
 simp [execOp,e0,e1,h2,e3,e5,buildCan]
theorem exCol (p0 p1 p2 p3:Operand) (h0:isI (ρ p0)=true) (h1:isI (ρ p1)=true) (h2:ρ p2=.int .i64 6) (h3:isI (ρ p3)=true) :
  (execOp ρ { dst,op:=.build 35 #[(0,p0),(1,p1),(2,p2),(3,p3)],type:=ty,pos,after,guard }).run Tryz.prog w=.ok (.value (.agg (fc (cCol (intOf (ρ p0)) (intOf (ρ p1)) (intOf (ρ p3)))))) w:=by
 have e0:=isI_of h0
 have e1:=isI_of h1
 have e3:=isI_of h3
 generalize intOf (ρ p0)=x0 at *
 generalize intOf (ρ p1)=x1 at *
 generalize intOf (ρ p3)=x3 at *
 simp [execOp,e0,e1,h2,e3,buildCol]
end
end Go.Proofs.YtjhocpcpkemcaaaGreat.Au
namespace Go.Proofs.YtjhocpcpkemcaaaGreat.Le
open Go.RowKit
open Go.ChangeShapes Go.WideShapes Go.Deep
open Rw
open Da
theorem cellsI:Tryz.prog.cellsOf 3=1:=by kernel_rfl
theorem cell_block {w:World} {p:Addr} {v:Value} (h:w.cell? p=some v):p.block<w.heap.size:=by
 apply Nat.lt_of_not_le
 intro hc
 have:w.heap[p.block]?=none:=Array.getElem?_eq_none hc
 unfold World.cell? at h
 simp [this] at h
theorem is_of {α:Type} [Inhabited α] (e:Enc α) (T:TypeId) (h0:0<e.k) (w:World) (a:Addr) (len c:Nat) (good:α→Prop)
  (h:∀ i,i<len→∃ x cs,good x∧e.R (Bs.of w.heap.size) x cs w∧∀ j u,cs[j]?=some u→w.cell? ((a.add (i*e.k)).add j)=some u):∃ l,Is e T (Bs.of w.heap.size) l (.slice (some a) len c) w∧l.length=len∧∀ x∈l,good x:=by
 classical
 have hg:∀ i,∃ x,i<len→good x∧∃ cs,e.R (Bs.of w.heap.size) x cs w∧∀ j u,cs[j]?=some u→w.cell? ((a.add (i*e.k)).add j)=some u:=fun i=>by
  by_cases hi:i<len
  ·obtain ⟨x,cs,h1,h2,h3⟩:=h i hi;exact ⟨x,fun _=>⟨h1,cs,h2,h3⟩⟩
  ·exact ⟨default,fun e=>absurd e hi⟩
 let f:=fun i=>Classical.choose (hg i)
 have hf:∀ i,i<len→good (f i)∧∃ cs,e.R (Bs.of w.heap.size) (f i) cs w∧∀ j u,cs[j]?=some u→w.cell? ((a.add (i*e.k)).add j)=some u:=fun i=>Classical.choose_spec (hg i)
 have hlen:((List.range len).map f).length=len:=by simp
 refine ⟨(List.range len).map f,⟨some a,c,by rw [hlen],?_⟩,hlen,fun x hx=>?_⟩
 ·by_cases e0:len=0
  ·left;subst e0;exact ⟨rfl,fun e=>by cases e⟩
  ·right
   obtain ⟨_,cs,hR,hu⟩:=hf 0 (by omega)
   have h1:0<cs.length:=by rw [e.len hR];exact h0
   have h2:=hu 0 _ (List.getElem?_eq_getElem h1)
   have h3:=World.cell?_spot h2
   obtain ⟨b,off,spot⟩:=a
   obtain rfl:spot=none:=by simpa [Addr.add] using h3
   have h4:=cell_block h2
   rw [add_eq,add_eq] at h4
   refine ⟨b,off,rfl,h4,.inl h4,fun i x hx=>?_⟩
   have hi:i<len:=by
    rcases Nat.lt_or_ge i len with h | h
    ·exact h
    ·rw [List.getElem?_eq_none (by rw [hlen];exact h)] at hx;cases hx
   have e2:f i=x:=by simpa [hi] using hx
   subst e2
   obtain ⟨_,ds,hR2,hu2⟩:=hf i hi
   refine ⟨ds,hR2,fun j u hj=>?_⟩
   have:=hu2 j u hj
   rwa [add_eq,add_eq] at this
 ·obtain ⟨i,hi,rfl⟩:=List.mem_map.1 hx
  exact (hf i (List.mem_range.1 hi)).1
theorem one_of {H:Type} {en:TypeId × Value→H} {w:World} {base n:Nat} {sp:Nat→Bool} {held:Bool} {cs:List Value} {y:DataW H × List MemPlace} (j:Nat)
  (h:DataW.trod en Tryz.prog w base sp held n 3 ((cs.drop j).take 1)=some y):∃ x,cs[j]?=some (.int .i64 x)∧(Lit.int .i64 x).wf=true:=by
 obtain ⟨x,e,_,hw⟩:=DataW.trod_int Tryz.underlying3 h
 refine ⟨x,?_,hw⟩
 have e2:((cs.drop j).take 1)[0]?=some (.int .i64 x):=by rw [e];rfl
 simpa using e2
theorem fld {H:Type} {en:TypeId × Value→H} {w:World} {base n o k:Nat} {sp:Nat→Bool} {held:Bool} {t:TypeId} {cs:List Value} {y:DataW H × List MemPlace} {f:Field} (ht:f.type=t) (ho:f.offset=o) (hk:Tryz.prog.cellsOf t=k)
  (h:DataW.trod en Tryz.prog w base sp held n f.type ((cs.drop f.offset).take (Tryz.prog.cellsOf f.type))=some y):DataW.trod en Tryz.prog w base sp held n t ((cs.drop o).take k)=some y:=by
 subst ht ho hk;exact h
end Go.Proofs.YtjhocpcpkemcaaaGreat.Le
namespace Go.Proofs.YtjhocpcpkemcaaaGreat.Ex
open Go.RowKit
open Go.ChangeShapes Go.WideShapes Go.Deep
open Rw
open Da
open Le (is_of fld one_of cellsI)
open Cm (fc fc_at v9)
theorem cellsC9:Tryz.prog.cellsOf 35=9:=by kernel_rfl
def wfCs (l:List Cd):Prop:=l.length≤maxLen∧∀ c∈l,Nine c
theorem open_cmds {H:Type} {en:TypeId × Value→H} {w:World} {base fuel:Nat} {sp:Nat→Bool} {held:Bool} {a:Option Addr} {n c:Nat} {x:DataW H × List MemPlace}
  (h:DataW.trod en Tryz.prog w base sp held fuel 22 (Value.slice a n c).cells.toList=some x):∃ l,CL (Bs.of w.heap.size) l (.slice a n c) w∧wfCs l:=by
 rcases open_slice Tryz.underlying22 h with ⟨hcs,_⟩ | ⟨ad,len,cap,m,n',D,Pl,hcs,_,hl,hcap,hm,_,hi⟩
 ·simp [Value.cells] at hcs
  obtain ⟨rfl,rfl,rfl⟩:=hcs
  exact ⟨[],Is.nil _ _ _ _,Nat.zero_le _,by simp⟩
 ·simp [Value.cells] at hcs
  obtain ⟨rfl,rfl,rfl⟩:=hcs
  suffices h:∃ l,CL (Bs.of w.heap.size) l (.slice (some ad) n c) w∧l.length=n∧∀ o∈l,Nine o by
   obtain ⟨l,h1,h2,h3⟩:=h
   exact ⟨l,h1,by omega,h3⟩
  refine is_of eC 35 (by decide) w ad n c Nine fun i hlt=>?_
  obtain ⟨cs,hc,ht⟩:=hi i (by rw [hm];split<;>omega)
  rw [cellsC9] at hc
  obtain ⟨_,hcl,hat⟩:=World.cells?_some hc
  obtain ⟨ys,n1,_,_,_,hyl,hf⟩:=DataW.trod_struct Tryz.underlying35 ht
  have g0:=fld (o:=0) (t:=3) rfl rfl cellsI ((hf 0 _ rfl).trans (List.getElem?_eq_getElem (by rw [hyl];decide)))
  have g1:=fld (o:=1) (t:=3) rfl rfl cellsI ((hf 1 _ rfl).trans (List.getElem?_eq_getElem (by rw [hyl];decide)))
  have g2:=fld (o:=2) (t:=3) rfl rfl cellsI ((hf 2 _ rfl).trans (List.getElem?_eq_getElem (by rw [hyl];decide)))
  have g3:=fld (o:=3) (t:=3) rfl rfl cellsI ((hf 3 _ rfl).trans (List.getElem?_eq_getElem (by rw [hyl];decide)))
  have g4:=fld (o:=4) (t:=3) rfl rfl cellsI ((hf 4 _ rfl).trans (List.getElem?_eq_getElem (by rw [hyl];decide)))
  have g5:=fld (o:=5) (t:=3) rfl rfl cellsI ((hf 5 _ rfl).trans (List.getElem?_eq_getElem (by rw [hyl];decide)))
  have g6:=fld (o:=6) (t:=3) rfl rfl cellsI ((hf 6 _ rfl).trans (List.getElem?_eq_getElem (by rw [hyl];decide)))
  have g7:=fld (o:=7) (t:=3) rfl rfl cellsI ((hf 7 _ rfl).trans (List.getElem?_eq_getElem (by rw [hyl];decide)))
  have g8:=fld (o:=8) (t:=3) rfl rfl cellsI ((hf 8 _ rfl).trans (List.getElem?_eq_getElem (by rw [hyl];decide)))
  obtain ⟨x0,e0,w0⟩:=one_of 0 g0
  obtain ⟨x1,e1,w1⟩:=one_of 1 g1
  obtain ⟨x2,e2,w2⟩:=one_of 2 g2
  obtain ⟨x3,e3,w3⟩:=one_of 3 g3
  obtain ⟨x4,e4,w4⟩:=one_of 4 g4
  obtain ⟨x5,e5,w5⟩:=one_of 5 g5
  obtain ⟨x6,e6,w6⟩:=one_of 6 g6
  obtain ⟨x7,e7,w7⟩:=one_of 7 g7
  obtain ⟨x8,e8,w8⟩:=one_of 8 g8
  refine ⟨v9 x0 x1 x2 x3 x4 x5 x6 x7 x8,[.int .i64 x0,.int .i64 x1,.int .i64 x2,.int .i64 x3,.int .i64 x4,.int .i64 x5,.int .i64 x6,.int .i64 x7,.int .i64 x8],⟨_,_,_,_,_,_,_,_,_,rfl⟩,(Cm.fc_list (v9 x0 x1 x2 x3 x4 x5 x6 x7 x8)).symm,fun j u hu=>?_⟩
  show w.cell? ((ad.add (i*9)).add j)=some u
  match j,hu with
  | 0,hu=>obtain rfl:=Option.some.inj hu;rw [hat 0 (by omega),e0]
  | 1,hu=>obtain rfl:=Option.some.inj hu;rw [hat 1 (by omega),e1]
  | 2,hu=>obtain rfl:=Option.some.inj hu;rw [hat 2 (by omega),e2]
  | 3,hu=>obtain rfl:=Option.some.inj hu;rw [hat 3 (by omega),e3]
  | 4,hu=>obtain rfl:=Option.some.inj hu;rw [hat 4 (by omega),e4]
  | 5,hu=>obtain rfl:=Option.some.inj hu;rw [hat 5 (by omega),e5]
  | 6,hu=>obtain rfl:=Option.some.inj hu;rw [hat 6 (by omega),e6]
  | 7,hu=>obtain rfl:=Option.some.inj hu;rw [hat 7 (by omega),e7]
  | 8,hu=>obtain rfl:=Option.some.inj hu;rw [hat 8 (by omega),e8]
  | j+9,hu=>cases hu
end Go.Proofs.YtjhocpcpkemcaaaGreat.Ex
namespace Go.Proofs.YtjhocpcpkemcaaaGreat.Au
open Go.RowKit
open Rw
open Da
open Le (LL OL OwnO eL eO Lv Od flat at5 elemO typesO Own.lower)
open La (Ln LN LB cN allO ordsO_any)
open Ac (Hd Pu HL total)
open Cm (fc fc_at v9)
open Se (Rp ret_bool)
open Ex
attribute [local go_sem ↓] exCan exCol
attribute [local go_sem] isI_at intOf_at
structure Inv (k:Nat) (y:Xc):Prop where
 right:RightX y
 bal:Bal y
 two:y.lanes.length=2
 owb:OwB y 43980465111040
 none':∀ a:Nat,a<k→Nothing a y
theorem Inv.step {k:Nat} {a q:Int} {x y:Xc} (h:Inv k x) (s:StepK a q x y):Inv k y:=⟨s.right,s.bal h.bal,s.len.trans h.two,owb_step s h.owb,fun a ha=>nothing_step s (h.none' a ha)⟩
theorem inv_run {l:List Cd} (h:l.length≤40):Inv 0 (runX x0 l):=by
 refine ⟨runX_right l r0,run_bal l r0 bal0,runX_len l r0,?_,fun a ha=>absurd ha (by omega)⟩
 have h1:=run_owed l r0 (B:=0) (fun m hm u=>by
  rcases List.mem_cons.1 hm with rfl | hm
  ·exact Int.le_refl 0
  ·obtain rfl:=List.mem_singleton.1 hm;exact Int.le_refl 0) (Int.le_refl _)
 intro m hm u
 have:=h1 m hm u
 omega
theorem last_nn {c:Int} {l:List Se.Sn} (h:Se.Right l):0≤Se.last c l:=by
 unfold Se.last
 cases e:Se.fnd c l with
 | none=>exact Int.le_refl _
 | some s =>
  have:=(Se.okS_iff.1 (h.1 s (fnd_of e).1)).2.2.1
  show 0≤s.2.1
  omega
theorem ln_ll {B:Bs} {lb lq nn:Int} {bu se:List Lv} {od:List Hd} {x y o:Value} {w:World} (h:LN B (lb,lq,(bu,se,nn),od) (.agg (cN lb lq x y nn o)) w):LL B bu x w∧LL B se y w:=by
 obtain ⟨x',y',o',e,h1,h2,h3⟩:=h
 simp [cN] at e
 obtain ⟨rfl,rfl,rfl⟩:=e
 exact ⟨h1,h2⟩
theorem lanes_at {n:Nat} {L:List Ln} {a:Option Addr} {N d:Nat} {w:World} (h:NsL n L (.slice a N d) w) (hN:0<N):∃ b off,a=some ⟨b,off,none⟩∧L.length=N∧Lies eN 59 (Bs.of n) L b off w:=by
 obtain ⟨_,_,e,h1⟩:=h
 simp only [Value.slice.injEq] at e
 obtain ⟨rfl,e2,rfl⟩:=e
 rcases h1 with ⟨e0,_⟩ | ⟨b,off,rfl,hat⟩
 ·rw [e0] at e2;simp at e2;omega
 ·exact ⟨b,off,rfl,e2.symm,hat⟩
theorem reach_done {a:Int} {x:Xc} (h:x.lanes.length=2) (hr:Full x.free∨∀ j,j<2→CleanAt a x j):Full x.free∨Nothing a x:=by
 rcases hr with h1 | h1
 ·exact .inl h1
 ·exact .inr (nothing_iff.2 fun j=>if hj:j<2 then h1 j hj else fun l hl=>absurd (List.getElem?_eq_some_iff.1 hl).1 (by omega))
theorem walkEmpties (l:List Cd) (v:Value) (w:World) (h:CL (Bs.of w.heap.size) l v w) (hl:wfCs l) :
  Calls Tryz.prog 9 #[v] w fun e w'=>e=.returned (.bool true)∧Below w.heap.size w w':=by
 obtain ⟨a0,c0,rfl,hel⟩:=h
 obtain ⟨N,hN⟩:∃ N,N=l.length:=⟨_,rfl⟩
 rw [← hN]
 by_cases h40:40<N
 ·have hd1:decide ((40:Int)<N)=true:=decide_eq_true (by omega)
  clear hel hN h40 hl
  go_enter Tryz.func9,Tryz.ntmps9
  go_wp2_with fail
  refine (awake_any w).mono ?_
  rintro e w1 ⟨rfl,hb1⟩
  go_wp2
  go_ret
  exact ⟨rfl,hb1⟩
 have hd1:decide ((40:Int)<N)=false:=decide_eq_false (by omega)
 have HCl:=lH (show CL (Bs.of w.heap.size) l (.slice a0 N c0) w from by rw [hN];exact ⟨a0,c0,rfl,hel⟩)
 have HN:=lH (show l.length≤100000∧∀ e∈l,Nine e from ⟨by omega,hl.2⟩)
 have HI0:=lH (inv_run (l:=l) (by omega))
 clear hel hN hl h40
 go_enter Tryz.func9,Tryz.ntmps9
 go_wp2_with fail
 refine (fresh_any w.heap.size w (Nat.le_refl _)).mono ?_
 rintro e w2 ⟨v2,rfl,hb2,hx2⟩
 obtain ⟨_,_,_,_,_,rfl,hd2'⟩:=id hx2
 obtain ⟨p1,q1,p2,q2,p3,q3,p4,q4,p5,q5,rfl,rfl,rfl,rfl,rfl⟩:=hd2'.open'
 clear hd2'
 have HRn:=lH (runX_any w.heap.size x0 _ l _ w2 hx2 hb2.size (smX_right r0) (Is.up _ _ (Bs.sub_of (show (Bs.of w.heap.size).le w2.heap.size from ⟨hb2.size,fun _ h=>h.elim⟩)) (Is.stays _ _ HCl.out hb2)) HN.out.1 HN.out.2)
 obtain ⟨y,hy⟩:∃ y,runX x0 l=y:=⟨_,rfl⟩
 obtain ⟨rs,hrs⟩:∃ rs,runR x0 l=rs:=⟨_,rfl⟩
 rw [hy,hrs] at HRn
 rw [hy] at HI0
 clear hx2 hy hrs
 go_wp2_with fail
 refine HRn.out.mono ?_
 rintro e w3 ⟨v3,g3,c3,rfl,hb3,hx3,-⟩
 obtain ⟨_,_,_,_,_,rfl,hd3⟩:=hx3
 obtain ⟨p1,q1,p2,q2,p3,q3,p4,q4,p5,q5,rfl,rfl,rfl,rfl,rfl⟩:=hd3.open'
 obtain ⟨bx,hbx⟩:∃ b,b=w3.heap.size:=⟨_,rfl⟩
 obtain ⟨W,hW⟩:∃ W,W=w3.alloc (.cells #[.slice p1 y.free.length q1,.slice p2 y.lanes.length q2,.slice p3 y.sess.length q3,.slice p4 y.inn.length q4,.slice p5 y.out.length q5] 28):=⟨_,rfl⟩
 have hbW:Below w3.heap.size w3 W:=hW ▸ below1 w3 _
 have HX0:=lH (show XB w.heap.size y (.slice p1 y.free.length q1) (.slice p2 y.lanes.length q2) (.slice p3 y.sess.length q3) (.slice p4 y.inn.length q4) (.slice p5 y.out.length q5) bx W from by rw [hW,hbx];exact XB.made hd3 (nx hb2 hb3).size)
 have HBW:=lH (nx (nx hb2 hb3) hbW)
 have HW:=lH hW
 have HBx:=lH hbx
 clear hd3 hW hbW hb3 hb2 hbx
 go_wp2
 rw [← HW.out,← HBx.out]
 go_loopw [23] (fun i wr=>∃ k:Nat,k≤64∧i=.int .i64 k∧Below w.heap.size w wr∧∃ z f l' s i o,Inv k z∧XB w.heap.size z f l' s i o bx wr) (fun i _=>64 - (intOf i).toNat)
 case atStart=>exact ⟨0,Nat.zero_le _,rfl,HBW.out,y,_,_,_,_,_,HI0.out,HX0.out⟩
 case round =>
  obtain ⟨k,hk,rfl,hb,z,f,l',s,i,o,hI,hx⟩:=hrel
  obtain ⟨b1,c1,b2,c2,b3,c3,b4,c4,b5,c5,rfl,rfl,rfl,rfl,rfl⟩:=hx.d.open'
  have HI:=lH hI
  have HX:=lH hx
  by_cases hlt:k<64
  ·have hlt2:(k:Int)<64:=by omega
   obtain ⟨q,hq⟩:∃ q,Se.last (k:Int) z.sess=q:=⟨_,rfl⟩
   have HQ:=lH hq
   have x1:=hx.cells.2.2.1
   have xl:=hx.lt
   have HB:=lH hb
   clear hI hx hb hq
   go_wp2_with fail
   refine (Se.last_is HQ HX.out.d.sess (Nat.le_trans (smX_right HI.out.right).sess (by decide))).mono ?_
   rintro e w4 ⟨rfl,hb4⟩
   have HX4:=lH (HX.out.stays hb4)
   have x2:=HX4.out.row
   obtain ⟨n,hn⟩:∃ q,usesO (k:Int) z.lanes=q:=⟨_,rfl⟩
   obtain ⟨m,hm⟩:∃ q,usesH (k:Int) z.lanes=q:=⟨_,rfl⟩
   have HU:=lH (And.intro hn hm)
   have hn4:=(nx HB.out hb4).size
   clear x1 hn hm
   go_wp2_with fail
   refine (uses_is HU ⟨_,_,_,_,_,rfl,HX4.out.d⟩ hn4 (smX_right HI.out.right)).mono ?_
   rintro e w5 ⟨rfl,hb5⟩
   have HX5:=lH (HX4.out.stays hb5)
   have HB5:=lH (nx HB.out (nx hb4 hb5))
   clear x2 xl hb4 hb5 hn4
   have hUN:=uses_none (a:=(k:Int)) (L:=z.lanes) HI.out.right.lane
   rw [HU.out.1,HU.out.2] at hUN
   have HUN:=lH hUN
   clear hUN
   by_cases h00:n=0∧m=0
   ·obtain ⟨rfl,rfl⟩:=h00
    have HI2:=lH (show Inv (k+1) z from ⟨HI.out.right,HI.out.bal,HI.out.two,HI.out.owb,fun a ha=>if e:a<k then HI.out.none' a e else by
     obtain rfl:a=k:=by omega
     exact HUN.out.1 ⟨rfl,rfl⟩⟩)
    go_wp2
    go_roundw
    case rel=>exact ⟨k+1,by omega,by go_num,HB5.out,_,_,_,_,_,_,HI2.out,HX5.out⟩
    case measure=>simp [intOf];omega
   have T0:((n:Int)==0)=false∨((n:Int)==0)=true∧((m:Int)==0)=false:=by
    by_cases e:n=0
    ·exact .inr ⟨by simp [e],by simp;omega⟩
    ·exact .inl (by simp;omega)
   have HT0:=lH T0
   clear T0 h00
   go_upto_region 9 with fail
   go_cut [41] (fun v wx=>v=.bool false∧wx=w5)
   case first =>
    rcases HT0.out with t1 | ⟨t1,t2⟩
    all_goals
     go_wp2
     go_meet
     exact ⟨rfl,rfl⟩
   case rest =>
   obtain ⟨rfl,hw5⟩:=hcut
   obtain rfl:w5=wc:=hw5.symm
   clear hw5
   by_cases hbig:1125899906841624<q
   ·have hd2:decide ((1125899906841624:Int)<q)=true:=decide_eq_true hbig
    clear hbig
    go_wp2_with fail
    refine (awake_any w5).mono ?_
    rintro e w6 ⟨rfl,hb6⟩
    have hf:=nx HB5.out hb6
    go_wp2
    go_ret
    exact ⟨rfl,hf⟩
   have hd2:decide ((1125899906841624:Int)<q)=false:=decide_eq_false hbig
   have hbig2:q≤1125899906841624:=by omega
   clear hbig
   have x3:=HX5.out.cells.2.1
   have xl:=HX5.out.lt
   go_wp2
   clear x3 xl hd2
   have HB5':=HB5
   obtain ⟨W5,hW5⟩:∃ W:World,W=w5:=⟨_,rfl⟩
   subst hW5
   rw [HI.out.two]
   go_loopw [6,48] (fun s i wr=>∃ j:Nat,j≤2∧i=.int .i64 j∧Below w.heap.size w wr∧∃ q' y f l' s' i' o,(s=.int .i64 q'∧q≤q'∧q'≤q+41*j)∧(Inv k y∧Se.last (k:Int) y.sess=q'∧(Full y.free∨∀ t,t<j→CleanAt k y t))∧XB w.heap.size y f l' s' i' o bx wr) (fun _ i _=>2 - (intOf i).toNat)
   case atStart=>exact ⟨0,by omega,rfl,HB5.out,q,z,_,_,_,_,_,⟨rfl,by omega,by omega⟩,⟨HI.out,HQ.out,.inr fun t ht=>absurd ht (by omega)⟩,HX5.out⟩
   case round =>
    obtain ⟨j,hj,rfl,hb,q',z2,f,l',s,i,o,⟨rfl,hq1,hq2⟩,⟨hI2,hL2,hD2⟩,hx⟩:=hrel
    obtain ⟨b1,c1,b2,c2,b3,c3,b4,c4,b5,c5,rfl,rfl,rfl,rfl,rfl⟩:=hx.d.open'
    have HI2:=lH hI2
    have HL2:=lH hL2
    have HD2:=lH hD2
    have HX2:=lH hx
    have HB2:=lH hb
    by_cases hlt3:j<2
    ·have hlt4:(j:Int)<2:=by omega
     have hNs:=HX2.out.d.lanes
     rw [hI2.two] at hNs
     obtain ⟨g,off,rfl,hlen,hat⟩:=lanes_at hNs (by decide)
     have hjl:j<z2.lanes.length:=by rw [hlen];exact hlt3
     obtain ⟨j1,w1,x1,j2,w2,x2,j3,w3',x3,hln,-,-,r2,r3,-,-⟩:=atN hat j hjl
     have hRl:=hI2.right.lane _ (List.getElem_mem hjl)
     have hsl:=(smX_right hI2.right).lane _ (List.getElem_mem hjl)
     have hgetl:z2.lanes[j]?=some z2.lanes[j]:=List.getElem?_eq_getElem hjl
     obtain ⟨⟨lb,lq,⟨bu,se,nn⟩,od⟩,hlnq⟩:∃ ln,z2.lanes[j]=ln:=⟨_,rfl⟩
     rw [hlnq] at hln hRl hsl hgetl
     obtain ⟨hl1,hl2⟩:=ln_ll hln
     clear hln
     have hF:∀ u,Below wr.heap.size wr u→u.cell? ⟨bx,1,none⟩=some (.slice (some ⟨g,off,none⟩) 2 c2)∧u.cell? ⟨g,off+j*6+2,none⟩=some (.slice j1 w1 x1)∧u.cell? ⟨g,off+j*6+3,none⟩=some (.slice j2 w2 x2):=fun u hu=>by
      have h1:=(HX2.out.stays hu).cells.2.1
      rw [HI2.out.two] at h1
      exact ⟨h1,by rw [← r2];exact hu.cell (p:=⟨g,off+j*6+2,none⟩) hat.1,by rw [← r3];exact hu.cell (p:=⟨g,off+j*6+3,none⟩) hat.1⟩
     have HLs:=lH (show ∀ u,Below wr.heap.size wr u→LL (Bs.of w.heap.size) bu (.slice j1 w1 x1) u∧LL (Bs.of w.heap.size) se (.slice j2 w2 x2) u from fun u hu=>⟨Is.stays eL 106 hl1 hu,Is.stays eL 106 hl2 hu⟩)
     have HBs:=lH (show ∀ u,Below wr.heap.size wr u→(Bs.of w.heap.size).le u.heap.size from fun u hu=>⟨(nx hb hu).size,fun _ h=>h.elim⟩)
     have HSl:=lH hsl
     have HRl:=lH hRl
     have HGl:=lH hgetl
     clear hI2 hL2 hD2 hx hb hNs hlen hat r2 r3 hRl hsl hgetl hlnq hl1 hl2 hjl
     obtain ⟨W6,hW6⟩:∃ W:World,W=wr:=⟨_,rfl⟩
     subst hW6
     obtain ⟨os,hos⟩:∃ os,allO (bu,se,nn)=os:=⟨_,rfl⟩
     obtain ⟨m,hm⟩:∃ m,os.length=m:=⟨_,rfl⟩
     have HOs:=lH hos
     have HM:=lH hm
     clear hos hm
     go_wp2
     refine Rh.rb [0,1,2,3,4,5,6,8,9,10,11,12,13,14,18,7,15,16,17] ?_
     repeat (first | (refine Rh.Steps.sk ?_;simp only [Act.put,sA,sB,sC]) | (refine Rh.Steps.pu (v:=?_) ?_ ?_;rotate_left;(intro w_ hS_;have hk_:=hF w_ hS_;go_simp<;>with_reducible rfl);simp only [Act.put,sA,sB,sC]))
     refine Rh.Steps.forced (i:=7) (by kernel_rfl) ?_
     refine Rh.One.call (fun v u=>OwnO (Bs.of w.heap.size) W6.heap.size (flat bu) v u) (fun v _ _ h k=>h.stays k) (f:=?_) (args:=?_) (by rfl) (by rfl) ?_ ?_ ?_
     rotate_left 2
     ·intro w_ hS_ hG_;go_simp<;>first | with_reducible rfl | (constructor<;>with_reducible rfl)
     ·intro w_ hS_ hG_;(go_at_call 36;refine (ordsO_any (Bs.of w.heap.size) bu _ w_ (HLs.out w_ hS_).1 (HBs.out w_ hS_) (Nat.le_trans HSl.out.m1 (by decide)) (Nat.le_trans HSl.out.m2 (by decide))).mono ?_;rintro e w' ⟨v,rfl,hb9,ho⟩;exact ⟨v,rfl,hb9,Own.lower ho hS_.size⟩)
     intro v1 u_ hv1
     simp only [Act.put,sA,sB,sC]
     refine Rh.Steps.forced (i:=15) (by kernel_rfl) ?_
     refine Rh.One.call (fun v u=>OwnO (Bs.of w.heap.size) W6.heap.size (flat se) v u) (fun v _ _ h k=>h.stays k) (f:=?_) (args:=?_) (by rfl) (by rfl) ?_ ?_ ?_
     rotate_left 2
     ·intro w_ hS_ hG_;go_simp<;>first | with_reducible rfl | (constructor<;>with_reducible rfl)
     ·intro w_ hS_ hG_;(go_at_call 36;refine (ordsO_any (Bs.of w.heap.size) se _ w_ (HLs.out w_ hS_).2 (HBs.out w_ hS_) (Nat.le_trans HSl.out.m3 (by decide)) (Nat.le_trans HSl.out.m4 (by decide))).mono ?_;rintro e w' ⟨v,rfl,hb9,ho⟩;exact ⟨v,rfl,hb9,Own.lower ho hS_.size⟩)
     intro v2 u_ hv2
     simp only [Act.put,sA,sB,sC]
     refine Rh.Steps.forced (i:=16) (by kernel_rfl) ?_
     refine Rh.One.new (fun v u=>Below W6.heap.size W6 u∧OL (Bs.of w.heap.size) os v u) (fun v _ _ h k=>⟨nx h.1 k,Is.stays eO 74 h.2 k⟩) (by rfl) (by rfl) ?_ ?_
     ·intro w_ hS_ hG_
      obtain ⟨v8,w8,hrun,hown8,_,hbl8,_⟩:=Own.append elemO 71 typesO (HBs.out W6 (Below.refl _ _)) hS_.size hG_.1.2 (hG_.2.is (by decide) (HBs.out W6 (Below.refl _ _))) (by have:=HSl.out.m2;have:=HSl.out.m4;simp only at *;omega) (by omega)
      have hb8:=hbl8 _ _ (Nat.le_refl _) hS_
      have hfin:OL (Bs.of w.heap.size) os v8 w8:=by rw [← HOs.out];exact hown8.is (by decide) (HBs.out W6 (Below.refl _ _))
      refine ⟨v8,w8,?_,hb8,hb8,hfin⟩
      clear hfin
      go_simp
     intro v3 u3 hv3
     obtain ⟨a9,c9,rfl⟩:=hv3.2.len
     rw [HM.out]
     simp only [Act.put,sA,sB,sC]
     repeat (first | (refine Rh.Steps.sk ?_;simp only [Act.put,sA,sB,sC]) | (refine Rh.Steps.pu (v:=?_) ?_ ?_;rotate_left;(intro w_ hS_;have hk_:=hF w_ hS_;go_simp<;>with_reducible rfl);simp only [Act.put,sA,sB,sC]))
     refine Rh.Steps.nil (by kernel_rfl) ?_
     rintro w7 hb7 hg7
     go_wp2
     have hm40:m≤40:=by
      have:=HRl.out.book.cnt
      unfold Bk.cntB at this
      rw [← HM.out,← HOs.out];unfold allO;rw [List.length_append];exact this
     have HMay:=lH (show ∀ o∈os,(1≤o.1∧o.1≤1073741824)∧(0≤o.2.1∧o.2.1<64) from fun o ho=>may_of HRl.out.book (by show o∈allO (bu,se,nn);rw [HOs.out];exact ho))
     have HOL:=lH (show OL (Bs.of w.heap.size) os (.slice a9 m c9) w7 from hg7.2)
     have HX7:=lH (HX2.out.stays hb7)
     have HB7:=lH (nx HB2.out hb7)
     have HRe:=lH (show Reach k z2 j os from by
      rcases HD2.out with h1 | h1
      ·exact .inl h1
      ·refine .inr ⟨h1,fun l hl o ho _=>?_⟩
       rw [HGl.out] at hl
       obtain rfl:=Option.some.inj hl
       show o∈os
       rw [← HOs.out];exact ho)
     have hq0:0≤q:=by rw [← HQ.out];exact last_nn HI.out.right.sess
     clear hg7 hb7 hF hv1 hv2 hv3
     go_loopw [6,69] (fun s i wr=>∃ t:Nat,t≤m∧i=.int .i64 t∧Below w.heap.size w wr∧OL (Bs.of w.heap.size) os (.slice a9 m c9) wr∧∃ q3 y f l' s' i' o,(s=.int .i64 q3∧q'≤q3∧q3≤q'+t)∧(Inv k y∧Se.last (k:Int) y.sess=q3∧Reach k y j (os.drop t))∧XB w.heap.size y f l' s' i' o bx wr) (fun _ i _=>m - (intOf i).toNat)
     case atStart=>exact ⟨0,Nat.zero_le _,rfl,HB7.out,HOL.out,q',z2,_,_,_,_,_,⟨rfl,Int.le_refl _,by omega⟩,⟨HI2.out,HL2.out,HRe.out⟩,HX7.out⟩
     case round =>
      obtain ⟨t,ht,rfl,hb,hol,q3,y3,f,l',s,i,o,⟨rfl,hq3,hq4⟩,⟨hI3,hL3,hR3⟩,hx⟩:=hrel
      obtain ⟨b1,c1,b2,c2,b3,c3,b4,c4,b5,c5,rfl,rfl,rfl,rfl,rfl⟩:=hx.d.open'
      have hjy:y3.lanes[j]?=some (y3.lanes[j]'(by rw [hI3.two];exact hlt3)):=List.getElem?_eq_getElem _
      by_cases hlt5:t<m
      ·have hlt6:(t:Int)<m:=by omega
       have hko:t<os.length:=by rw [HM.out];exact hlt5
       have hol2:=hol
       rw [← HM.out] at hol2
       rcases hol2.cases with ⟨e,_⟩ | ⟨_,g7,off7,cc,e,hat⟩
       ·rw [e] at hko;cases hko
       simp only [Value.slice.injEq] at e
       obtain ⟨rfl,-,rfl⟩:=e
       obtain ⟨r0,r1,r2,r3,r4⟩:=at5 hat t hko
       have hbb:=hat.1
       have hdr:os.drop t=os[t] :: os.drop (t+1):=List.drop_eq_getElem_cons hko
       have hmy:=HMay.out _ (List.getElem_mem hko)
       obtain ⟨⟨o1,o2,o3,o4,o5⟩,ho⟩:∃ x,os[t]'hko=x:=⟨_,rfl⟩
       rw [ho] at r0 r1 r2 r3 r4 hdr hmy
       rw [hdr] at hR3
       simp only at r0 r1 r2 r3 r4 hmy
       obtain ⟨U,hU⟩:∃ U,U=wr.alloc (.cells #[.int .i64 o1,.int .i64 o2,.int .i64 o3,.int .i64 o4,.int .i64 o5] 74):=⟨_,rfl⟩
       have hbU:Below wr.heap.size wr U:=hU ▸ below1 wr _
       have gU:U.heap[wr.heap.size]?=some (.cells #[.int .i64 o1,.int .i64 o2,.int .i64 o3,.int .i64 o4,.int .i64 o5] 74 (0,0)):=by rw [hU];exact heap_alloc_new _ _
       have hxU:=hx.stays hbU
       have u0:U.cell? ⟨wr.heap.size,0,none⟩=some (.int .i64 o1):=cell_is gU
       have u1:U.cell? ⟨wr.heap.size,1,none⟩=some (.int .i64 o2):=cell_is gU
       have u2:=hxU.row
       have u3:=hxU.lt
       have HXU:=lH hxU
       have HBU:=lH (nx hb hbU)
       have HOU:=lH (Is.stays eO 74 hol hbU)
       have HU:=lH hU
       have HI3:=lH hI3
       have HL3:=lH hL3
       have HR3:=lH hR3
       by_cases hd:o2=(k:Int)
       ·have d1:(o2==(k:Int))=true:=by simpa using hd
        have hst:=can_step hI3.right (a:=k) (q:=q3+1) (i:=j) (o:=(o1,o2,o3,o4,o5)) (os:=os.drop (t+1)) ⟨by omega,by omega⟩ (by rw [hL3];omega) ⟨by omega,by omega⟩ (by omega) ⟨by show 0≤o1;omega,by show o1≤_;omega⟩ hjy hR3
        have h1:=applyX_any w.heap.size y3 (.agg #[.slice b1 y3.free.length c1,.slice b2 y3.lanes.length c2,.slice b3 y3.sess.length c3,.slice b4 y3.inn.length c4,.slice b5 y3.out.length c5]) (cCan k (q3+1) j o1) U ⟨_,_,_,_,_,rfl,hxU.d⟩ (nx hb hbU).size (smX_right hI3.right)
        obtain ⟨R,hR⟩:∃ R,apply y3 (cCan k (q3+1) j o1)=R:=⟨_,rfl⟩
        have hst:StepK k (q3+1) y3 (apply y3 (cCan k (q3+1) j o1)).1∧Reach k (apply y3 (cCan k (q3+1) j o1)).1 j (os.drop (t+1)):=hst
        rw [hR] at hst h1
        have HSt:=lH hst
        have HAp:=lH h1
        have HIn:=lH (HI3.out.step hst.1)
        rw [hU] at u0 u1 u2 u3
        clear hU hbU gU hxU hI3 hL3 hR3 hst h1 hR hdr hat ho hol hol2 hx hb hjy hd hmy
        go_wp2_with fail
        rw [← HU.out]
        clear r0 r1 r2 r3 r4 u0 u1 u2 u3
        with_reducible refine HAp.out.mono ?_
        rintro e w8 ⟨v8,rfl,hb8,hx8⟩
        obtain ⟨_,_,_,_,_,rfl,d8⟩:=hx8
        obtain ⟨s1,t1,s2,t2,s3,t3,s4,t4,s5,t5,rfl,rfl,rfl,rfl,rfl⟩:=d8.open'
        have hx8:=HXU.out.stays hb8
        have k3:plain 5 w8 bx=true:=plain_is hx8.bk rfl
        have k4:bx<w8.heap.size:=lt_of_some hx8.bk
        obtain ⟨Z,hZ⟩:∃ Z,Z=w8.setRow bx #[.slice s1 R.1.free.length t1,.slice s2 R.1.lanes.length t2,.slice s3 R.1.sess.length t3,.slice s4 R.1.inn.length t4,.slice s5 R.1.out.length t5]:=⟨_,rfl⟩
        have kp:∀ ts,28 ∉ ts→Da.Keeps (Bs.of w.heap.size) ts w8 Z:=fun ts ht=>by rw [hZ];exact Bk.keeps_setRow (B:=Bs.of w.heap.size) _ hx8.bk ht hx8.lo
        have HFn:=lH (show Below w.heap.size w Z∧XB w.heap.size R.1 (.slice s1 R.1.free.length t1) (.slice s2 R.1.lanes.length t2) (.slice s3 R.1.sess.length t3) (.slice s4 R.1.inn.length t4) (.slice s5 R.1.out.length t5) bx Z∧OL (Bs.of w.heap.size) os (.slice (some ⟨g7,off7,none⟩) m c9) Z from
         ⟨by rw [hZ];exact below_setRow (nx HBU.out hb8) hx8.lo _,⟨by rw [hZ];exact setRow_heap w8 _ _ _ _ _ hx8.bk,hx8.lo,d8.keep (kp _ (by decide))⟩,Is.keep eO 74 (Is.stays eO 74 HOU.out hb8) (kp _ (by decide))⟩)
        have HZ:=lH hZ
        clear hZ hx8 hb8 d8 kp
        go_wp2
        rw [← HZ.out]
        go_roundw
        case rel=>(repeat apply Exists.intro);exact ⟨⟨t+1,by omega,by go_num,HFn.out.1,HFn.out.2.2,q3+1,R.1,_,_,_,_,_,⟨rfl,by omega,by omega⟩,⟨HIn.out,HSt.out.1.last,HSt.out.2⟩,HFn.out.2.1⟩,rfl⟩
        case measure=>simp [intOf];omega
       ·have d1:(o2==(k:Int))=false:=by simpa using hd
        have HRs:=lH (reach_skip hR3 hd)
        rw [hU] at u0 u1 u2 u3
        clear hU hbU gU hxU hI3 hL3 hR3 hdr hat ho hol hol2 hx hb hjy hd hmy
        go_wp2
        rw [← HU.out]
        go_roundw
        case rel=>exact ⟨t+1,by omega,by go_num,HBU.out,HOU.out,q3,y3,_,_,_,_,_,⟨rfl,by omega,by omega⟩,⟨HI3.out,HL3.out,HRs.out⟩,HXU.out⟩
        case measure=>simp [intOf];omega
      ·obtain rfl:t=m:=by omega
       rw [show os.drop t=[] from by rw [← HM.out,List.drop_length]] at hR3
       have u2:=hx.row
       have u3:=hx.lt
       have HXU:=lH hx
       have HBU:=lH hb
       obtain ⟨U,hU⟩:∃ U:World,U=wr:=⟨_,rfl⟩
       subst hU
       have HU:=lH (rfl:U=U)
       have hst:=col_step hI3.right (a:=k) (q:=q3+1) (i:=j) ⟨by omega,by omega⟩ (by rw [hL3];omega) ⟨by omega,by omega⟩ (by omega) hI3.owb hjy hR3
       have h1:=applyX_any w.heap.size y3 (.agg #[.slice b1 y3.free.length c1,.slice b2 y3.lanes.length c2,.slice b3 y3.sess.length c3,.slice b4 y3.inn.length c4,.slice b5 y3.out.length c5]) (cCol k (q3+1) j) U ⟨_,_,_,_,_,rfl,hx.d⟩ hb.size (smX_right hI3.right)
       obtain ⟨R,hR⟩:∃ R,apply y3 (cCol k (q3+1) j)=R:=⟨_,rfl⟩
       rw [hR] at hst h1
       have HSt:=lH hst
       have HAp:=lH h1
       have HIn:=lH (hI3.step hst.1)
       clear hI3 hL3 hR3 hst h1 hR hol hx hb hjy
       go_wp2_with fail
       clear u2 u3
       with_reducible refine HAp.out.mono ?_
       rintro e w8 ⟨v8,rfl,hb8,hx8⟩
       obtain ⟨_,_,_,_,_,rfl,d8⟩:=hx8
       obtain ⟨s1,t1,s2,t2,s3,t3,s4,t4,s5,t5,rfl,rfl,rfl,rfl,rfl⟩:=d8.open'
       have hx8:=HXU.out.stays hb8
       have k3:plain 5 w8 bx=true:=plain_is hx8.bk rfl
       have k4:bx<w8.heap.size:=lt_of_some hx8.bk
       obtain ⟨Z,hZ⟩:∃ Z,Z=w8.setRow bx #[.slice s1 R.1.free.length t1,.slice s2 R.1.lanes.length t2,.slice s3 R.1.sess.length t3,.slice s4 R.1.inn.length t4,.slice s5 R.1.out.length t5]:=⟨_,rfl⟩
       have kp:∀ ts,28 ∉ ts→Da.Keeps (Bs.of w.heap.size) ts w8 Z:=fun ts ht=>by rw [hZ];exact Bk.keeps_setRow (B:=Bs.of w.heap.size) _ hx8.bk ht hx8.lo
       have HFn:=lH (show Below w.heap.size w Z∧XB w.heap.size R.1 (.slice s1 R.1.free.length t1) (.slice s2 R.1.lanes.length t2) (.slice s3 R.1.sess.length t3) (.slice s4 R.1.inn.length t4) (.slice s5 R.1.out.length t5) bx Z from
        ⟨by rw [hZ];exact below_setRow (nx HBU.out hb8) hx8.lo _,⟨by rw [hZ];exact setRow_heap w8 _ _ _ _ _ hx8.bk,hx8.lo,d8.keep (kp _ (by decide))⟩⟩)
       have HZ:=lH hZ
       clear hZ hx8 hb8 d8 kp
       go_wp2
       rw [← HZ.out]
       go_roundw
       case rel=>(repeat apply Exists.intro);exact ⟨⟨j+1,by omega,by go_num,HFn.out.1,q3+1,R.1,_,_,_,_,_,⟨rfl,by omega,by omega⟩,⟨HIn.out,HSt.out.1.last,HSt.out.2⟩,HFn.out.2⟩,rfl⟩
       case measure=>simp [intOf];omega
    ·obtain rfl:j=2:=by omega
     have x1:=hx.row
     have xl:=hx.lt
     obtain ⟨n2,hn2⟩:∃ q,usesO (k:Int) z2.lanes=q:=⟨_,rfl⟩
     obtain ⟨m2,hm2⟩:∃ q,usesH (k:Int) z2.lanes=q:=⟨_,rfl⟩
     have HU2:=lH (And.intro hn2 hm2)
     have hUN:=uses_none (a:=(k:Int)) (L:=z2.lanes) hI2.right.lane
     rw [hn2,hm2] at hUN
     have HUN2:=lH hUN
     have HRd:=lH (reach_done hI2.two hD2)
     clear hn2 hm2 hUN hI2 hL2 hD2 hx hb hlt3 hj
     go_wp2_with fail
     refine (uses_is HU2 ⟨_,_,_,_,_,rfl,HX2.out.d⟩ HB2.out.size (smX_right HI2.out.right)).mono ?_
     rintro e w6 ⟨rfl,hb6⟩
     have HX6:=lH (HX2.out.stays hb6)
     have HB6:=lH (nx HB2.out hb6)
     clear x1 xl hb6
     by_cases h00:n2=0∧m2=0
     ·obtain ⟨rfl,rfl⟩:=h00
      have HI6:=lH (show Inv (k+1) z2 from ⟨HI2.out.right,HI2.out.bal,HI2.out.two,HI2.out.owb,fun a ha=>if e:a<k then HI2.out.none' a e else by
       obtain rfl:a=k:=by omega
       exact HUN2.out.1 ⟨rfl,rfl⟩⟩)
      go_wp2
      go_roundw
      case rel=>exact ⟨k+1,by omega,by go_num,HB6.out,z2,_,_,_,_,_,HI6.out,HX6.out⟩
      case measure=>simp [intOf];omega
     have HFu:=lH (show fullB z2.free=true from (fullB_iff HI2.out.right.free).2 (HRd.out.resolve_right fun h=>h00 (HUN2.out.2 h)))
     have T2:((n2:Int) != 0)=true∨((n2:Int) != 0)=false∧((m2:Int) != 0)=true:=by
      by_cases e:n2=0
      ·exact .inr ⟨by simp [e],by simp;omega⟩
      ·exact .inl (by simp;omega)
     have x1:=HX6.out.row
     have xl:=HX6.out.lt
     clear h00
     rcases T2 with t1 | ⟨t1,t2⟩
     all_goals
      go_wp2_with fail
      refine (full_is HFu ⟨_,_,_,_,_,rfl,HX6.out.d⟩ HB6.out.size (smX_right HI2.out.right)).mono ?_
      rintro e w7 ⟨rfl,hb7⟩
      go_wp2_with fail
      refine (awake_any w7).mono ?_
      rintro e w8 ⟨rfl,hb8⟩
      have hf:=nx HB6.out (nx hb7 hb8)
      go_wp2
      go_ret
      exact ⟨rfl,hf⟩
  ·obtain rfl:k=64:=by omega
   have HAf:=lH (all_free hI.right hI.bal hI.none')
   have HB:=lH hb
   clear hI hx hb hlt hk
   go_wp2
   obtain ⟨W5,hW5⟩:∃ W:World,W=wr:=⟨_,rfl⟩
   subst hW5
   go_loopw [121] (fun i wr=>∃ a:Nat,a≤8∧i=.int .i64 a∧Below W5.heap.size W5 wr) (fun i _=>8 - (intOf i).toNat)
   case atStart=>exact ⟨0,Nat.zero_le _,rfl,Below.refl _ _⟩
   case round =>
    obtain ⟨a,ha,rfl,hb⟩:=hrel
    have HBr:=lH hb
    have HXr:=lH (HX.out.stays hb)
    by_cases hlt7:a<8
    ·have hlt8:(a:Int)<8:=by omega
     have u1:=total_bd z.free a
     have u4:=total_bd z.inn a
     have u5:=total_bd z.out a
     have hE:=HAf.out a
     obtain ⟨t1,e1⟩:∃ t,total z.free (a:Int)=t:=⟨_,rfl⟩
     obtain ⟨t4,e4⟩:∃ t,total z.inn (a:Int)=t:=⟨_,rfl⟩
     obtain ⟨t5,e5⟩:∃ t,total z.out (a:Int)=t:=⟨_,rfl⟩
     rw [e1,e4,e5] at hE
     rw [e1] at u1
     rw [e4] at u4
     rw [e5] at u5
     have H1:=lH e1
     have H4:=lH e4
     have H5:=lH e5
     have d1:(IntKind.i64.wrap (t4 - t5) != t1)=false:=by rw [IntKind.wrap_i64];simp;omega
     have d2:(t4 - t5 != t1)=false:=by simp;omega
     obtain ⟨W6,hW6⟩:∃ W:World,W=wr:=⟨_,rfl⟩
     subst hW6
     have hF:∀ u,Below W6.heap.size W6 u→u.cell? ⟨bx,0,none⟩=some (.slice b1 z.free.length c1)∧u.cell? ⟨bx,3,none⟩=some (.slice b4 z.inn.length c4)∧u.cell? ⟨bx,4,none⟩=some (.slice b5 z.out.length c5):=fun u hu=>by
      obtain ⟨r0,r1,r2,r3,r4⟩:=(HXr.out.stays hu).cells
      exact ⟨r0,r3,r4⟩
     clear hE e1 e4 e5 hb
     go_wp2
     refine Rf.rg [0,1,2,3,4,5,6,7,8,9,10,11,12,13] ?_
     repeat (first | (refine Rf.Steps.sk ?_;simp only [Act.put,sA,sB,sC]) | (refine Rf.Steps.pu (v:=?_) ?_ ?_;rotate_left;(intro w_ hS_;have hk_:=hF w_ hS_;go_simp<;>with_reducible rfl);simp only [Act.put,sA,sB,sC]) | (refine Rf.Steps.ca (v:=?_) (f:=?_) (args:=?_) ?_ ?_ ?_;rotate_left 3;(intro w_ hS_;have hk_:=hF w_ hS_;go_simp<;>first | with_reducible rfl | (constructor<;>with_reducible rfl));(intro w_ hS_;have hk_:=hF w_ hS_;first | (go_at_call 38;(first | with_reducible refine (total_is H4 (HXr.out.stays hS_).d.inn (smX_right HI.out.right).inn).mono ?_ | with_reducible refine (total_is H5 (HXr.out.stays hS_).d.out (smX_right HI.out.right).out).mono ?_ | with_reducible refine (total_is H1 (HXr.out.stays hS_).d.free (smX_right HI.out.right).free).mono ?_);first | (rintro e w_ ⟨rfl,rfl⟩;refine ⟨?_,Below.refl _ _⟩;with_reducible rfl) | (rintro e w_ ⟨rfl,hb_⟩;refine ⟨?_,hb_⟩;with_reducible rfl)));simp only [Act.put,sA,sB,sC]))
     refine Rf.Steps.nil (by kernel_rfl) ?_
     intro w9 hb9
     have hf:=nx HBr.out hb9
     clear hF
     go_wp2
     go_roundw
     case rel=>exact ⟨a+1,by omega,by go_num,hf⟩
     case measure=>simp [intOf];omega
    ·obtain rfl:a=8:=by omega
     have x1:=HXr.out.row
     have xl:=HXr.out.lt
     clear hb hlt7 ha
     go_wp2_with fail
     refine (sound_is (lH (sound_right HI.out.right HI.out.bal)) ⟨_,_,_,_,_,rfl,HXr.out.d⟩ (nx HB.out HBr.out).size (smX_right HI.out.right)).mono ?_
     rintro e w7 ⟨rfl,hb7⟩
     go_wp2_with fail
     refine (awake_any w7).mono ?_
     rintro e w8 ⟨rfl,hb8⟩
     have hf:=nx HB.out (nx HBr.out (nx hb7 hb8))
     go_wp2
     go_ret
     exact ⟨rfl,hf⟩
end Go.Proofs.YtjhocpcpkemcaaaGreat.Au
