/- Plain mathematics of layer 10: what is free, reserved and owed together; whose it is. -/
import Derived.Test.YtjhocpcpkemcaaaGreatQeZZ
import Derived.Test.YtjhocpcpkemcaaaGreatQeAE
set_option linter.unusedVariables false
set_option maxRecDepth 16000
set_option maxHeartbeats 32000000
namespace Go.Proofs.YtjhocpcpkemcaaaGreat.La
open Le
open Bk
open Ac (Hd Pu pmay pmay_iff tot total giveE giveL takeE takeL)
open Mo (may may_iff addS addE subS subE add2 sub2)
theorem get_some {l:List Hd} {u:Pu} (h:Ac.get l u≠0):∃ k∈l,Ac.key k=u:=by
 by_cases e:∃ k∈l,Ac.key k=u
 ·exact e
 ·exact absurd (Ac.get_none fun k hk x=>e ⟨k,hk,x⟩) h
theorem only_iff {b q:Int} {l:List Hd} (hr:Ac.Right l):only b q l=true ↔ ∀ u:Pu,u.2≠b→u.2≠q→Ac.get l u=0:=by
 unfold only
 rw [List.all_eq_true]
 constructor
 ·intro h u hb hq
  by_cases e:Ac.get l u=0
  ·exact e
  ·obtain ⟨k,hk,rfl⟩:=get_some e
   have:=h k hk
   simp only [Bool.or_eq_true,beq_iff_eq] at this
   exact (this.elim hb hq).elim
 ·intro h k hk
  simp only [Bool.or_eq_true,beq_iff_eq]
  by_cases hb:k.2.1=b
  ·exact .inl hb
  ·by_cases hq:k.2.1=q
   ·exact .inr hq
   ·have h1:=h (Ac.key k) hb hq
    have h2:=(Ac.good_iff.1 (hr.1 k hk)).2.1
    rw [Ac.get_mem hr hk] at h1
    omega
def sumP (s:Int):List Fl→Int
 | []=>0
 | f :: r=>payF s f+sumP s r
def sumG (s:Int):List Fl→Int
 | []=>0
 | f :: r=>getF s f+sumG s r
structure StS (b q s:Int) (fs:List Fl) (ow:List Hd) (p g:Int) (S:List Hd × Int × Int × Int):Prop where
 right:Ac.Right S.1
 pays:S.2.1=p+sumP s fs
 gets:S.2.2.1=g+sumG s fs
 tot':∀ a,tot a S.1=tot a ow+(if astF b q s=a then sumP s fs else 0)
 others:∀ u:Pu,(∀ f∈fs,f.2.1≠u.1)→Ac.get S.1 u=Ac.get ow u
 asset:∀ u:Pu,u.2≠astF b q s→Ac.get S.1 u=Ac.get ow u
theorem stl_ok {b q s:Int}:∀ {fs:List Fl} {ow:List Hd} {p g:Int},Ac.Right ow→(stl b q s fs ow p g).2.2.2=0→StS b q s fs ow p g (stl b q s fs ow p g)
 | [],ow,p,g,hr,_=>⟨hr,by simp [stl,sumP],by simp [stl,sumG],fun a=>by simp [stl,sumP],fun _ _=>rfl,fun _ _=>rfl⟩
 | f :: r,ow,p,g,hr,h=>by
  rw [stl] at h ⊢
  by_cases he:giveE ow (f.2.1,astF b q s) (payF s f)=0
  ·rw [if_pos he] at h ⊢
   obtain ⟨r1,g1,t1⟩:=Ac.give_done he
   obtain ⟨a1,a2,a3,a4,a5,a6⟩:=stl_ok r1 h
   refine ⟨a1,by rw [a2,sumP];omega,by rw [a3,sumG];omega,fun a=>?_,fun u hu=>?_,fun u hu=>?_⟩
   ·rw [a4,t1,sumP]
    simp only
    split<;>omega
   ·rw [a5 u fun x hx=>hu x (List.mem_cons_of_mem _ hx),g1,if_neg]
    intro e
    exact hu f List.mem_cons_self (by rw [e])
   ·rw [a6 u hu,g1,if_neg]
    intro e
    exact hu (by rw [e])
  ·rw [if_neg he] at h
   exact absurd h he
theorem take_ok {l:List Hd} {p:Pu} {n:Int} (h:takeE l p n=0):Ac.Right l∧pmay p=true∧0≤n∧n≤Ac.get l p:=by
 have h':=h
 unfold takeE at h
 by_cases c:(Ac.right l&&pmay p&&may n)=true
 ·simp only [Bool.and_eq_true] at c
  have hr:=Ac.right_iff.1 c.1.1
  have:=(Ac.take_plays hr c.1.2).1 h'
  exact ⟨hr,c.1.2,this.1,this.2⟩
 ·rw [if_neg c] at h;exact absurd h (by decide)
theorem rsv_less {b q a n:Int} {o:Od} {r:List Od}:rsv b q a (less o n :: r)=rsv b q a (o :: r) - (if ndA b q o.2.2.1=a then ndN o.2.2.1 o.2.2.2.1 n else 0):=by
 rw [rsv,rsv]
 show (if ndA b q o.2.2.1=a then ndN o.2.2.1 o.2.2.2.1 (o.2.2.2.2 - n) else 0)+_=_
 by_cases h:ndA b q o.2.2.1=a
 ·rw [if_pos h,if_pos h,if_pos h]
  have e:ndN o.2.2.1 o.2.2.2.1 (o.2.2.2.2 - n)=ndN o.2.2.1 o.2.2.2.1 o.2.2.2.2 - ndN o.2.2.1 o.2.2.2.1 n:=by
   unfold ndN
   split
   ·exact Int.mul_sub _ _ _
   ·rfl
  omega
 ·rw [if_neg h,if_neg h,if_neg h];omega
theorem ndN_get {s n:Int} {o:Od} (hs:s=1∨s=2) (ho:o.2.2.1=3 - s):ndN o.2.2.1 o.2.2.2.1 n=getF s (mkF o n):=by
 unfold ndN getF mkF opr
 rcases hs with rfl | rfl
 ·rw [ho,if_neg (by decide),if_pos rfl]
 ·rw [ho,if_pos (by decide),if_neg (by decide)]
theorem rsv_aft {b q a ow s p:Int} (hs:s=1∨s=2):∀ {os:List Od} {n:Int} {fs:List Fl} {lf:Int},(∀ o∈os,1≤olf o)→(∀ o∈os,o.2.2.1=3 - s)→0≤n→tr ow s p os n=some (fs,lf) →
  rsv b q a (aft s p os n)=rsv b q a os - (if ndA b q (3 - s)=a then sumG s fs else 0)
 | [],n,fs,lf,_,_,_,h=>by
  simp only [tr,Option.some.injEq,Prod.mk.injEq] at h
  obtain ⟨rfl,rfl⟩:=h
  simp [aft,rsv,sumG]
 | o :: r,n,fs,lf,ho,hsd,hn,h=>by
  have ho1:=ho o List.mem_cons_self
  have hs1:=hsd o List.mem_cons_self
  rcases tr_step h hn ho1 with ⟨_,rfl,_,h2⟩ | ⟨h1,h2,h3,h4,rfl,_,h5⟩ | ⟨h1,h2,h3,h4,gs,rfl,h5,h6⟩
  ·rw [h2,sumG];split<;>omega
  ·rw [h5,rsv_less,hs1,← hs1,ndN_get hs hs1,sumG,sumG]
   split<;>omega
  ·have ih:=rsv_aft (b:=b) (q:=q) (a:=a) hs (fun x hx=>ho x (List.mem_cons_of_mem _ hx)) (fun x hx=>hsd x (List.mem_cons_of_mem _ hx)) (by omega) h5
   rw [h6,ih,rsv,hs1,← hs1,sumG,ndN_get hs hs1]
   unfold olf
   split<;>omega
theorem side_b {b:Bk} (h:RightB b):(∀ o∈flat b.1,o.2.2.1=1)∧∀ o∈flat b.2.1,o.2.2.1=2 :=
 ⟨fun _ ho=>(omay_iff.1 (mem_may h.buys ho)).2.2.2.2.1,fun _ ho=>(omay_iff.1 (mem_may h.sells ho)).2.2.2.2.1⟩
theorem rsv_wout {b:Bk} {ow s p n B Q a:Int} {fs:List Fl} {lf:Int} (h:RightB b) (hs:s=1∨s=2) (hn:0≤n) (ht:tr ow s p (flat (oth b s)) n=some (fs,lf)) :
  rsv B Q a (allO (wout b s fs))=rsv B Q a (allO b) - (if ndA B Q (3 - s)=a then sumG s fs else 0):=by
 obtain ⟨_,_,_,k4,_⟩:=tr_wout h hs hn ht
 obtain ⟨s1,s2⟩:=side_b h
 unfold allO
 rw [rsv_app,rsv_app]
 rcases hs with rfl | rfl
 ·have e:=rsv_aft (b:=B) (q:=Q) (a:=a) (.inl rfl) (left_pos h.sells) (fun o ho=>by rw [s2 o ho];rfl) hn (show tr ow 1 p (flat b.2.1) n=some (fs,lf) from ht)
  have e2:flat (wout b 1 fs).2.1=aft 1 p (flat b.2.1) n:=k4
  rw [e2,e]
  show rsv B Q a (flat b.1)+_=_
  omega
 ·have e:=rsv_aft (b:=B) (q:=Q) (a:=a) (.inr rfl) (left_pos h.buys) (fun o ho=>by rw [s1 o ho];rfl) hn (show tr ow 2 p (flat b.1) n=some (fs,lf) from ht)
  have e2:flat (wout b 2 fs).1=aft 2 p (flat b.1) n:=k4
  rw [e2,e]
  show _+rsv B Q a (flat b.2.1)=_
  omega
theorem rsv_putB {b:Bk} {o:Od} {B Q a:Int}:rsv B Q a (allO (putB b o))=rsv B Q a (allO b)+(if ndA B Q o.2.2.1=a then ndN o.2.2.1 o.2.2.2.1 o.2.2.2.2 else 0):=by
 unfold allO putB
 split
 ·rw [rsv_app,rsv_app,rsv_perm _ _ _ flat_put,rsv]
  show _+rsv B Q a (flat b.1)+rsv B Q a (flat b.2.1)=_
  omega
 ·rw [rsv_app,rsv_app,rsv_perm _ _ _ (flat_put (l:=b.2.1)),rsv]
  show rsv B Q a (flat b.1)+(_+rsv B Q a (flat b.2.1))=_
  omega
structure PlN (B Q:Int) (b:Bk) (ow s p:Int) (C:Pl):Prop where
 right:RightB C.1
 side:s=1∨s=2
 price:1≤p∧p≤1048576
 left:0≤C.2.2.1∧C.2.2.1≤1048576
 id:0≤C.2.2.2.1
 owner:∀ f∈C.2.1,f.2.1≠ow
 fills:∀ f∈C.2.1,0≤f.2.2.1∧f.2.2.1≤1048576∧0≤f.2.2.2.1∧f.2.2.2.1≤1048576
 cnt:C.2.1.length≤40
 rsv':∀ a,rsv B Q a (allO C.1)=rsv B Q a (allO b) - (if ndA B Q (3 - s)=a then sumG s C.2.1 else 0)+(if 0<C.2.2.2.1 then (if ndA B Q s=a then ndN s p C.2.2.1 else 0) else 0)
theorem fills_of {b:Bk} {ow s p n:Int} {fs:List Fl} {lf:Int} (h:RightB b) (_hs:s=1∨s=2) (hn:0≤n) (hn2:n≤1048576) (k3:TrS ow s p (flat (oth b s)) n fs lf) :
  (0≤lf∧lf≤1048576)∧(∀ f∈fs,f.2.1≠ow)∧(∀ f∈fs,0≤f.2.2.1∧f.2.2.1≤1048576∧0≤f.2.2.2.1∧f.2.2.2.1≤1048576)∧fs.length≤40:=by
 have hok:∀ o∈flat (oth b s),okO o:=fun o ho=>okO_of h o (by
  unfold allO
  unfold oth at ho
  split at ho
  ·exact List.mem_append_right _ ho
  ·exact List.mem_append_left _ ho)
 have hf:∀ f∈fs,f.2.1≠ow∧(0≤f.2.2.1∧f.2.2.1≤1048576∧0≤f.2.2.2.1∧f.2.2.2.1≤1048576):=fun f hf=>by
  obtain ⟨i,hi,rfl⟩:=List.mem_iff_getElem.1 hf
  obtain ⟨h',m,e,n1,n2,_,n3,_⟩:=k3.at' i hi
  have:=hok _ (List.getElem_mem h')
  unfold okO at this
  unfold olf at n2
  rw [e]
  refine ⟨n3,?_⟩
  show 0≤opr _∧opr _≤_∧0≤m∧m≤_
  unfold opr
  omega
 have h1:=k3.sum
 have h2:0≤sumQ fs:=sumQ_nn fun f h=>(hf f h).2.2.2.1
 have h3:=k3.nn
 have h4:=k3.len
 have h5:=h.cnt
 refine ⟨by omega,fun f h=>(hf f h).1,fun f h=>(hf f h).2,?_⟩
 unfold cntB at h5
 unfold oth at h4
 split at h4<;>omega
theorem place_n {b:Bk} {ow s p n B Q:Int} {rest:Bool} (h:RightB b) (he:(place b ow s p n rest).2.2.2.2=0):PlN B Q b ow s p (place b ow s p n rest):=by
 have hR:=place_right (ow:=ow) (s:=s) (p:=p) (q:=n) (rest:=rest) h
 unfold place at he hR ⊢
 rw [rightB_iff.2 h,Bool.true_and] at he hR ⊢
 cases ha:argOk ow s p n
 ·rw [ha,if_neg (by decide)] at he;exact absurd (show (1:Int)=0 from he) (by decide)
 rw [ha,if_pos rfl] at he hR
 rw [if_pos rfl]
 have hA:=argOk_iff.1 ha
 cases ht:tr ow s p (flat (oth b s)) n with
 | none=>rw [ht] at he;exact absurd (show (11:Int)=0 from he) (by decide)
 | some x =>
  obtain ⟨fs,lf⟩:=x
  rw [ht] at he hR
  simp only at he hR ⊢
  obtain ⟨k1,k2,k3,k4,k5⟩:=tr_wout h hA.2.2.1 (by omega) ht
  obtain ⟨f1,f2,f3,f4⟩:=fills_of h hA.2.2.1 (by omega) hA.2.2.2.2.2.2 k3
  have hw:=fun a=>rsv_wout (B:=B) (Q:=Q) (a:=a) h hA.2.2.1 (by omega) ht
  by_cases hr:rest=true∧0<lf
  ·rw [if_pos hr] at he hR ⊢
   by_cases hf:40≤(cntB b:Int) - (dn fs:Nat)∨b.2.2=1073741824
   ·rw [if_pos hf] at he;exact absurd (show (10:Int)=0 from he) (by decide)
   ·rw [if_neg hf] at hR ⊢
    have hn1:=h.n1
    refine ⟨hR,hA.2.2.1,by omega,f1,by show 0≤b.2.2;omega,f2,f3,f4,fun a=>?_⟩
    rw [rsv_putB,hw a]
    show _+(if ndA B Q s=a then ndN s p lf else 0)=_+(if 0<b.2.2 then (if ndA B Q s=a then ndN s p lf else 0) else 0)
    rw [if_pos (show 0<b.2.2 by omega)]
  ·rw [if_neg hr] at hR ⊢
   refine ⟨hR,hA.2.2.1,by omega,f1,Int.le_refl _,f2,f3,f4,fun a=>?_⟩
   rw [hw a]
   have e0:∀ x:Int,(if (0:Int)<0 then x else 0)=0:=fun _=>if_neg (by decide)
   show rsv B Q a (allO b) - (if ndA B Q (3 - s)=a then sumG s fs else 0)=rsv B Q a (allO b) - (if ndA B Q (3 - s)=a then sumG s fs else 0)+(if (0:Int)<0 then _ else 0)
   rw [e0,Int.add_zero]
structure Keeps (l l':Ln) (fr fr':List Hd) (ow:Int):Prop where
 right:RightN l'
 free:Ac.Right fr'
 base:l'.1=l.1
 quote:l'.2.1=l.2.1
 tot':∀ a,tot a fr'+rsv l.1 l.2.1 a (allO l'.2.2.1)+tot a l'.2.2.2=tot a fr+rsv l.1 l.2.1 a (allO l.2.2.1)+tot a l.2.2.2
 others:∀ u:Pu,u.1≠ow→Ac.get fr' u=Ac.get fr u
theorem Keeps.refl {l:Ln} {fr:List Hd} (h:RightN l) (hf:Ac.Right fr) (ow:Int):Keeps l l fr fr ow:=⟨h,hf,rfl,rfl,fun _=>rfl,fun _ _=>rfl⟩
theorem ne_pair {l:Ln} (h:RightN l):l.1≠l.2.1:=(pairOk_iff.1 h.pair).2.2.2.2
theorem fin_keep {l:Ln} {fr:List Hd} {ow s p:Int} {C:Pl} {S:List Hd × Int × Int × Int} (h:RightN l) (hf:Ac.Right fr) (hC:PlN l.1 l.2.1 l.2.2.1 ow s p C) (hS:StS l.1 l.2.1 s C.2.1 l.2.2.2 0 0 S) :
  Keeps l (fin l fr ow s p C S).1 fr (fin l fr ow s p C S).2.1 ow∧(∀ u:Pu,u.1=ow→Ac.get (fin l fr ow s p C S).1.2.2.2 u=Ac.get l.2.2.2 u)∧((fin l fr ow s p C S).2.2.2.2≠0→(fin l fr ow s p C S).1=l∧(fin l fr ow s p C S).2.1=fr):=by
 have hne:=ne_pair h
 obtain ⟨lb,lq,bk,od⟩:=l
 simp only at hC hS hne
 unfold fin
 simp only
 generalize hu:(if s=2 then lb else lq)=ua
 generalize hg:(if s=2 then lq else lb)=ga
 generalize hP:S.2.1+(if 0<C.2.2.2.1 then ndN s p C.2.2.1 else 0)=P
 by_cases h1:takeE fr (ow,ua) P=0
 ·rw [if_pos h1]
  obtain ⟨_,t2,t3,t4⟩:=take_ok h1
  obtain ⟨r1,g1,q1⟩:=Ac.take_done hf t2 h1
  by_cases h2:giveE (takeL fr (ow,ua) P) (ow,ga) S.2.2.1=0
  ·rw [if_pos h2]
   obtain ⟨r2,g2,q2⟩:=Ac.give_done h2
   refine ⟨⟨⟨h.pair,hC.right,hS.right,?_⟩,r2,rfl,rfl,fun a=>?_,fun u hu=>?_⟩,fun u hu=>?_,fun e=>absurd rfl e⟩
   ·rw [only_iff hS.right]
    intro u e1 e2
    have e3:=(only_iff h.owed).1 h.only' u e1 e2
    rw [hS.asset u ?_]
    ·exact e3
    ·unfold astF
     split
     ·exact e2
     ·exact e1
   ·show tot a (giveL _ _ _)+rsv lb lq a (allO C.1)+tot a S.1=_
    rw [q2,q1,hC.rsv',hS.tot',hS.gets]
    show _=tot a fr+rsv lb lq a (allO bk)+tot a od
    have hpay:=hS.pays
    rcases hC.side with rfl | rfl
    ·obtain rfl:lq=ua:=by rw [← hu,if_neg (by decide)]
     obtain rfl:lb=ga:=by rw [← hg,if_neg (by decide)]
     have e1:ndA lb lq (3 - 1)=lb:=rfl
     have e2:ndA lb lq 1=lq:=rfl
     have e3:astF lb lq 1=lq:=rfl
     simp only [e1,e2,e3]
     by_cases c:0<C.2.2.2.1<;>by_cases a1:lb=a<;>by_cases a2:lq=a<;>simp only [c,a1,a2,if_true,if_false] at hP ⊢<;>omega
    ·obtain rfl:lb=ua:=by rw [← hu,if_pos rfl]
     obtain rfl:lq=ga:=by rw [← hg,if_pos rfl]
     have e1:ndA lb lq (3 - 2)=lq:=rfl
     have e2:ndA lb lq 2=lb:=rfl
     have e3:astF lb lq 2=lb:=rfl
     simp only [e1,e2,e3]
     by_cases c:0<C.2.2.2.1<;>by_cases a1:lb=a<;>by_cases a2:lq=a<;>simp only [c,a1,a2,if_true,if_false] at hP ⊢<;>omega
   ·show Ac.get (giveL _ _ _) u=_
    rw [g2,if_neg (fun e=>hu (by rw [e])),g1,if_neg (fun e=>hu (by rw [e]))]
   ·exact hS.others u fun f hf=>by rw [hu];exact hC.owner f hf
  ·rw [if_neg h2]
   exact ⟨Keeps.refl h hf ow,fun _ _=>rfl,fun _=>⟨rfl,rfl⟩⟩
 ·rw [if_neg h1]
  exact ⟨Keeps.refl h hf ow,fun _ _=>rfl,fun _=>⟨rfl,rfl⟩⟩
theorem placeN_keep {l:Ln} {fr:List Hd} (h:RightN l) (hf:Ac.Right fr) (ow s p n:Int) (rest:Bool) :
  Keeps l (placeN l fr ow s p n rest).1 fr (placeN l fr ow s p n rest).2.1 ow∧(∀ u:Pu,u.1=ow→Ac.get (placeN l fr ow s p n rest).1.2.2.2 u=Ac.get l.2.2.2 u)∧((placeN l fr ow s p n rest).2.2.2.2≠0→(placeN l fr ow s p n rest).1=l∧(placeN l fr ow s p n rest).2.1=fr):=by
 unfold placeN
 rw [rightN_iff.2 h,Ac.right_iff.2 hf,if_pos (by rfl)]
 simp only
 by_cases h1:(place l.2.2.1 ow s p n rest).2.2.2.2=0
 ·rw [if_pos h1]
  have hC:=place_n (B:=l.1) (Q:=l.2.1) h.book h1
  by_cases h2:(stl l.1 l.2.1 s (place l.2.2.1 ow s p n rest).2.1 l.2.2.2 0 0).2.2.2=0
  ·rw [if_pos h2]
   exact fin_keep h hf hC (stl_ok h.owed h2)
  ·rw [if_neg h2]
   exact ⟨Keeps.refl h hf ow,fun _ _=>rfl,fun _=>⟨rfl,rfl⟩⟩
 ·rw [if_neg h1]
  exact ⟨Keeps.refl h hf ow,fun _ _=>rfl,fun _=>⟨rfl,rfl⟩⟩
theorem rsv_filter {b q a id:Int}:∀ {l:List Od} {o:Od},(l.map oid).Nodup→o∈l→o.1=id→rsv b q a (l.filter fun x=>!hasId id x)=rsv b q a l - (if ndA b q o.2.2.1=a then ndN o.2.2.1 o.2.2.2.1 o.2.2.2.2 else 0)
 | [],_,_,h,_=>by cases h
 | x :: r,o,hn,h,e=>by
  rw [List.map_cons,List.nodup_cons] at hn
  have hself:∀ {m:List Od},(∀ y∈m,y.1≠id)→m.filter (fun x=>!hasId id x)=m:=fun hm=>List.filter_eq_self.2 fun y hy=>by simp [hasId,hm y hy]
  rcases List.mem_cons.1 h with rfl | h
  ·have hx:(!hasId id o)=false:=by simp [hasId,e]
   rw [List.filter_cons,hx,if_neg (by decide),hself,rsv]
   ·omega
   ·intro y hy k
    exact hn.1 (List.mem_map.2 ⟨y,hy,k.trans e.symm⟩)
  ·have hx:(!hasId id x)=true:=by
    have:x.1≠id:=fun k=>hn.1 (List.mem_map.2 ⟨o,h,e.trans k.symm⟩)
    simp [hasId,this]
   rw [List.filter_cons,hx,if_pos rfl,rsv,rsv,rsv_filter hn.2 h e]
   omega
theorem nodup_all {b:Bk} (h:RightB b):((allO b).map oid).Nodup:=by
 unfold allO
 rw [List.map_append,List.nodup_append]
 refine ⟨h.buys.2.2.2,h.sells.2.2.2,fun x hx y hy e=>?_⟩
 obtain ⟨o,ho,rfl⟩:=List.mem_map.1 hx
 obtain ⟨z,hz,rfl⟩:=List.mem_map.1 hy
 exact h.apart o ho z hz e
theorem fndB_mem {b:Bk} {id:Int} {o:Od} (h:fndB b id=some o):o∈allO b∧o.1=id:=by
 unfold fndB at h
 unfold allO
 cases e:fnd (flat b.1) id with
 | some x =>
  rw [e] at h
  obtain rfl:=Option.some.inj h
  obtain ⟨h1,h2⟩:=fnd_some e
  exact ⟨List.mem_append_left _ h1,h2⟩
 | none =>
  rw [e] at h
  obtain ⟨h1,h2⟩:=fnd_some h
  exact ⟨List.mem_append_right _ h1,h2⟩
theorem cancelN_keep {l:Ln} {fr:List Hd} (h:RightN l) (hf:Ac.Right fr) (ow id:Int) :
  Keeps l (cancelN l fr ow id).1 fr (cancelN l fr ow id).2.1 ow∧(cancelN l fr ow id).1.2.2.2=l.2.2.2∧((cancelN l fr ow id).2.2.2≠0→(cancelN l fr ow id).1=l∧(cancelN l fr ow id).2.1=fr):=by
 unfold cancelN
 rw [rightN_iff.2 h,Ac.right_iff.2 hf,if_pos (by rfl)]
 rcases cancel_cases (ow:=ow) (id:=id) h.book with ⟨_,h2⟩ | ⟨o,_,_,h2⟩ | ⟨o,h1,h2,h3,h4,h5,h6,h7⟩
 ·rw [h2];exact ⟨Keeps.refl h hf ow,rfl,fun _=>⟨rfl,rfl⟩⟩
 ·rw [h2];exact ⟨Keeps.refl h hf ow,rfl,fun _=>⟨rfl,rfl⟩⟩
 ·rw [h4]
  simp only [if_true]
  by_cases hg:giveE fr (ow,ndA l.1 l.2.1 o.2.2.1) (ndN o.2.2.1 o.2.2.2.1 o.2.2.2.2)=0
  ·rw [if_pos hg]
   obtain ⟨r2,g2,q2⟩:=Ac.give_done hg
   obtain ⟨hm,_⟩:=fndB_mem h1
   refine ⟨⟨⟨h.pair,h5,h.owed,h.only'⟩,r2,rfl,rfl,fun a=>?_,fun u hu=>?_⟩,rfl,fun e=>absurd rfl e⟩
   ·show tot a (giveL _ _ _)+rsv l.1 l.2.1 a (allO (remB l.2.2.1 o))+tot a l.2.2.2=_
    have e:allO (remB l.2.2.1 o)=(allO l.2.2.1).filter fun x=>!hasId id x:=h6
    rw [q2,e,rsv_filter (nodup_all h.book) hm h3]
    simp only
    split<;>omega
   ·show Ac.get (giveL _ _ _) u=_
    rw [g2,if_neg (fun e=>hu (by rw [e]))]
  ·rw [if_neg hg];exact ⟨Keeps.refl h hf ow,rfl,fun _=>⟨rfl,rfl⟩⟩
theorem collectN_keep {l:Ln} {fr:List Hd} (h:RightN l) (hf:Ac.Right fr) (ow:Int) :
  Keeps l (collectN l fr ow).1 fr (collectN l fr ow).2.1 ow∧((collectN l fr ow).2.2.2.2=0→∀ u:Pu,u.1=ow→Ac.get (collectN l fr ow).1.2.2.2 u=0)∧((collectN l fr ow).2.2.2.2≠0→(collectN l fr ow).1=l∧(collectN l fr ow).2.1=fr):=by
 have hne:=ne_pair h
 obtain ⟨lb,lq,bk,od⟩:=l
 simp only at hne
 have hR:=h
 obtain ⟨h1,h2,h3,h4⟩:=h
 simp only at h1 h2 h3 h4
 unfold collectN
 rw [rightN_iff.2 hR,Ac.right_iff.2 hf,if_pos (by rfl)]
 simp only
 generalize hx:Ac.get od (ow,lb)=x
 generalize hy:Ac.get od (ow,lq)=y
 by_cases h0:x=0∧y=0
 ·rw [if_pos h0]
  exact ⟨Keeps.refl hR hf ow,fun e=>absurd (show (16:Int)=0 from e) (by decide),fun _=>⟨rfl,rfl⟩⟩
 rw [if_neg h0]
 by_cases e1:giveE fr (ow,lb) x=0
 ·rw [if_pos e1]
  by_cases e2:giveE (giveL fr (ow,lb) x) (ow,lq) y=0
  ·rw [if_pos e2]
   obtain ⟨r1,g1,q1⟩:=Ac.give_done e1
   obtain ⟨r2,g2,q2⟩:=Ac.give_done e2
   obtain ⟨_,m1,_⟩:=Ac.give_ok e1
   obtain ⟨_,m2,_⟩:=Ac.give_ok e2
   obtain ⟨p1,_⟩:=Ac.get_pos (p:=(ow,lb)) h3
   obtain ⟨p2,_⟩:=Ac.get_pos (p:=(ow,lq)) h3
   have t1:takeE od (ow,lb) x=0:=(Ac.take_plays h3 m1).2 (by omega)
   obtain ⟨k1,k2,k3⟩:=Ac.take_done h3 m1 t1
   have hy2:Ac.get (takeL od (ow,lb) x) (ow,lq)=y:=by
    rw [k2,if_neg (fun e=>hne (by simp at e;exact e.symm))];exact hy
   have t2:takeE (takeL od (ow,lb) x) (ow,lq) y=0:=(Ac.take_plays k1 m2).2 (by omega)
   obtain ⟨n1,n2,n3⟩:=Ac.take_done k1 m2 t2
   have hget:∀ u:Pu,Ac.get (takeL (takeL od (ow,lb) x) (ow,lq) y) u=if u=(ow,lq) then 0 else if u=(ow,lb) then 0 else Ac.get od u:=fun u=>by
    rw [n2,hy2,k2]
    by_cases c1:u=(ow,lq)
    ·rw [if_pos c1,if_pos c1];omega
    ·rw [if_neg c1,if_neg c1]
     by_cases c2:u=(ow,lb)
     ·rw [if_pos c2,if_pos c2];omega
     ·rw [if_neg c2,if_neg c2]
   refine ⟨⟨⟨h1,h2,n1,?_⟩,r2,rfl,rfl,fun a=>?_,fun u hu=>?_⟩,fun _ u hu=>?_,fun e=>absurd rfl e⟩
   ·show only lb lq _=true
    rw [only_iff n1]
    intro u a1 a2
    rw [hget]
    split
    ·rfl
    ·split
     ·rfl
     ·exact (only_iff h3).1 h4 u a1 a2
   ·show tot a (giveL _ _ _)+_+tot a (takeL _ _ _)=_
    rw [q2,q1,n3,k3]
    simp only
    split<;>split<;>omega
   ·show Ac.get (giveL _ _ _) u=_
    rw [g2,if_neg (fun e=>hu (by rw [e])),g1,if_neg (fun e=>hu (by rw [e]))]
   ·show Ac.get (takeL _ _ _) u=0
    rw [hget]
    by_cases c1:u=(ow,lq)
    ·rw [if_pos c1]
    ·rw [if_neg c1]
     by_cases c2:u=(ow,lb)
     ·rw [if_pos c2]
     ·rw [if_neg c2]
      refine (only_iff h3).1 h4 u (fun e=>c2 (Prod.ext hu e)) (fun e=>c1 (Prod.ext hu e))
  ·rw [if_neg e2]
   exact ⟨Keeps.refl hR hf ow,fun e=>absurd e e2,fun _=>⟨rfl,rfl⟩⟩
 ·rw [if_neg e1]
  exact ⟨Keeps.refl hR hf ow,fun e=>absurd e e1,fun _=>⟨rfl,rfl⟩⟩
end Go.Proofs.YtjhocpcpkemcaaaGreat.La
