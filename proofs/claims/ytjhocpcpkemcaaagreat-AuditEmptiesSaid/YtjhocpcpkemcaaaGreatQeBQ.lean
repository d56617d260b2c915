/- Plain mathematics of layer 12: what a command leaves as it was, and what its answer hangs on; right ones stay right; once; either order. -/
import Derived.Test.YtjhocpcpkemcaaaGreatQeZZ
import Derived.Test.YtjhocpcpkemcaaaGreatQeAH
import Derived.Test.YtjhocpcpkemcaaaGreatQeAL
import Derived.Test.YtjhocpcpkemcaaaGreatQeAY
import Derived.Test.YtjhocpcpkemcaaaGreatQeBI
import Derived.Test.YtjhocpcpkemcaaaGreatQeBH
import Derived.Test.YtjhocpcpkemcaaaGreatQeBP
import Derived.Test.YtjhocpcpkemcaaaGreatQeAZ
set_option linter.unusedVariables false
set_option maxRecDepth 16000
set_option maxHeartbeats 32000000
namespace Go.Proofs.YtjhocpcpkemcaaaGreat.Ex
open Bk (Bk Fl sumQ bestP)
open La (Ln placeN cancelN collectN RightN rightN rightN_iff stl)
open Ac (Hd Pu pmay pmay_iff giveE giveL takeE takeL)
open Se (Rp Sn z5 fnd noteE noteL mk okS okS_iff)
open Cm (chkE chkB laneB meetB zeroB limB)
theorem give_right {l:List Hd} {p:Pu} {n:Int} (h:Ac.Right l):Ac.Right (giveL l p n):=by
 by_cases e:giveE l p n=0
 ·exact (Ac.give_done e).1
 ·rw [Ac.give_none e];exact h
theorem give_get {l:List Hd} {p:Pu} {n:Int} (q:Pu):Ac.get (giveL l p n) q=if giveE l p n=0∧q=p then Ac.get l p+n else Ac.get l q:=by
 by_cases e:giveE l p n=0
 ·rw [(Ac.give_done e).2.1]
  by_cases k:q=p
  ·rw [if_pos k,if_pos ⟨e,k⟩]
  ·rw [if_neg k,if_neg (fun h=>k h.2)]
 ·rw [Ac.give_none e,if_neg (fun h=>e h.1)]
theorem take_all {l:List Hd} {p:Pu} {n:Int} (h:Ac.Right l):Ac.Right (takeL l p n)∧∀ q,Ac.get (takeL l p n) q=if takeE l p n=0∧q=p then Ac.get l p - n else Ac.get l q:=by
 by_cases e:takeE l p n=0
 ·obtain ⟨a,b,_⟩:=Ac.take_done h (La.take_ok e).2.1 e
  refine ⟨a,fun q=>?_⟩
  rw [b]
  by_cases k:q=p
  ·rw [if_pos k,if_pos ⟨e,k⟩]
  ·rw [if_neg k,if_neg (fun h=>k h.2)]
 ·rw [Ac.take_none e]
  exact ⟨h,fun q=>by rw [if_neg (fun h=>e h.1)]⟩
def onL (c:Nat→Int):Option Nat:=if laneB (c 2)=true then some (c 3).toNat else none
structure ExecK (x:Xc) (a:Int) (i:Option Nat) (R:Xc × Int × Int × Int):Prop where
 right:RightX R.1
 sess:R.1.sess=x.sess
 free:∀ u:Pu,u.1≠a→Ac.get R.1.free u=Ac.get x.free u
 inn:∀ u:Pu,u.1≠a→Ac.get R.1.inn u=Ac.get x.inn u
 out:∀ u:Pu,u.1≠a→Ac.get R.1.out u=Ac.get x.out u
 len:R.1.lanes.length=x.lanes.length
 lanes:∀ j,i≠some j→R.1.lanes[j]?=x.lanes[j]?
 err:R.2.1≠0→R=(x,R.2.1,0,0)
 code:R.2.1≠13
theorem ExecK.same {x:Xc} (h:RightX x) (a:Int) (i:Option Nat) {k A B:Int} (hk:k≠13) (he:k≠0→A=0∧B=0):ExecK x a i (x,k,A,B) :=
 ⟨h,rfl,fun _ _=>rfl,fun _ _=>rfl,fun _ _=>rfl,rfl,fun _ _=>rfl,fun e=>by obtain ⟨rfl,rfl⟩:=he e;rfl,hk⟩
theorem execP_keep {x:Xc} (h:RightX x) (c:Nat→Int) (i:Option Nat):ExecK x (c 0) i (execP x c):=by
 unfold execP
 by_cases h1:c 2≠7∧c 8=0
 ·rw [if_pos h1];exact ExecK.same h _ _ (by decide) fun _=>⟨rfl,rfl⟩
 rw [if_neg h1]
 have hne:∀ u:Pu,u.1≠c 0→u≠(c 0,c 4):=fun u hu e=>hu (by rw [e])
 by_cases h2:c 2=1
 ·rw [if_pos h2]
  by_cases h3:giveE x.inn (c 0,c 4) (c 8)=0
  ·rw [if_pos h3]
   by_cases h4:giveE x.free (c 0,c 4) (c 8)=0
   ·rw [if_pos h4]
    exact ⟨⟨h.few,h.lane,give_right h.free,give_right h.inn,h.out,h.sess⟩,rfl,fun u hu=>by show Ac.get (giveL _ _ _) u=_;rw [give_get,if_neg (fun k=>hne u hu k.2)],fun u hu=>by show Ac.get (giveL _ _ _) u=_;rw [give_get,if_neg (fun k=>hne u hu k.2)],fun _ _=>rfl,rfl,fun _ _=>rfl,fun k=>absurd rfl k,by show (0:Int)≠13;decide⟩
   ·rw [if_neg h4];exact ExecK.same h _ _ (give_code _ _ _) fun _=>⟨rfl,rfl⟩
  ·rw [if_neg h3];exact ExecK.same h _ _ (give_code _ _ _) fun _=>⟨rfl,rfl⟩
 rw [if_neg h2]
 by_cases h5:c 2=2
 ·rw [if_pos h5]
  by_cases h3:takeE x.free (c 0,c 4) (c 8)=0
  ·rw [if_pos h3]
   by_cases h4:giveE x.out (c 0,c 4) (c 8)=0
   ·rw [if_pos h4]
    exact ⟨⟨h.few,h.lane,(take_all h.free).1,h.inn,give_right h.out,h.sess⟩,rfl,fun u hu=>by show Ac.get (takeL _ _ _) u=_;rw [(take_all h.free).2,if_neg (fun k=>hne u hu k.2)],fun _ _=>rfl,fun u hu=>by show Ac.get (giveL _ _ _) u=_;rw [give_get,if_neg (fun k=>hne u hu k.2)],rfl,fun _ _=>rfl,fun k=>absurd rfl k,by show (0:Int)≠13;decide⟩
   ·rw [if_neg h4];exact ExecK.same h _ _ (give_code _ _ _) fun _=>⟨rfl,rfl⟩
  ·rw [if_neg h3];exact ExecK.same h _ _ (take_code _ _ _) fun _=>⟨rfl,rfl⟩
 ·rw [if_neg h5];exact ExecK.same h _ _ (by decide) fun k=>absurd rfl k
theorem set_self {α:Type} {l:List α} {i:Nat} {x:α} (h:l[i]?=some x):l.set i x=l:=by
 obtain ⟨hi,rfl⟩:=List.getElem?_eq_some_iff.1 h
 exact List.set_getElem_self hi
theorem execL_keep {x:Xc} (h:RightX x) (c:Nat→Int):ExecK x (c 0) (some (c 3).toNat) (execL x c):=by
 unfold execL
 cases hl:x.lanes[(c 3).toNat]? with
 | none=>exact ExecK.same h _ _ (by decide) fun _=>⟨rfl,rfl⟩
 | some l =>
  have hm:=List.mem_of_getElem? hl
  have k:=act_keep (h.lane l hm) h.free c
  refine ⟨⟨by show (x.lanes.set _ _).length≤6;rw [List.length_set];exact h.few,fun m hm2=>?_,k.keep.free,h.inn,h.out,h.sess⟩,rfl,k.keep.others,fun _ _=>rfl,fun _ _=>rfl,List.length_set,fun j hj=>?_,fun he=>?_,k.code⟩
  ·rcases List.mem_or_eq_of_mem_set hm2 with h1 | rfl
   ·exact h.lane m h1
   ·exact k.keep.right
  ·show (x.lanes.set _ _)[j]?=_
   rw [List.getElem?_set_ne (fun e=>hj (by rw [e]))]
  ·have e:=k.err he
   show (({ x with lanes:=x.lanes.set (c 3).toNat (act l x.free c).1,free:=(act l x.free c).2.1 }:Xc),(act l x.free c).2.2)=(x,(act l x.free c).2.2.1,0,0)
   generalize act l x.free c=R at e ⊢
   obtain ⟨l',f',k1,k2,k3⟩:=R
   simp only [Prod.mk.injEq] at e
   obtain ⟨rfl,rfl,-,rfl,rfl⟩:=e
   simp only
   rw [set_self hl]
theorem exec_keep {x:Xc} (h:RightX x) (c:Nat→Int):ExecK x (c 0) (onL c) (exec x c):=by
 unfold exec onL
 by_cases e:laneB (c 2)=true
 ·rw [if_pos e,if_pos e];exact execL_keep h c
 ·rw [if_neg e,if_neg e];exact execP_keep h c none
end Go.Proofs.YtjhocpcpkemcaaaGreat.Ex
namespace Go.Proofs.YtjhocpcpkemcaaaGreat.Ex
open Bk (Bk Fl sumQ bestP)
open La (Ln RightN)
open Ac (Hd Pu)
open Se (Rp Sn z5 fnd noteE noteL mk okS okS_iff)
open Cm (chkE chkB laneB meetB zeroB limB)
theorem fnd_of {a:Int} {l:List Sn} {s:Sn} (h:fnd a l=some s):s∈l∧s.1=a:=by
 induction l with
 | nil=>cases h
 | cons x r ih =>
  rw [fnd] at h
  by_cases e:x.1=a
  ·rw [if_pos e] at h;obtain rfl:=Option.some.inj h;exact ⟨List.mem_cons_self,e⟩
  ·rw [if_neg e] at h;exact ⟨List.mem_cons_of_mem _ (ih h).1,(ih h).2⟩
theorem look_at {a q:Int} (l:List Sn) (hq:1≤q):(∃ s,fnd a l=some s∧s.2.1=q∧Se.look a q l=(s.2.2,0))∨(∃ s,fnd a l=some s∧q<s.2.1∧Se.look a q l=(z5,13))∨(Se.last a l<q∧Se.look a q l=(z5,8)):=by
 unfold Se.look Se.last
 cases h:fnd a l with
 | none=>exact .inr (.inr ⟨by show (0:Int)<q;omega,rfl⟩)
 | some s =>
  simp only
  by_cases h1:s.2.1<q
  ·exact .inr (.inr ⟨h1,if_pos h1⟩)
  ·by_cases h2:q<s.2.1
   ·exact .inr (.inl ⟨s,rfl,h2,by rw [if_neg h1,if_pos h2]⟩)
   ·exact .inl ⟨s,rfl,by omega,by rw [if_neg h1,if_neg h2]⟩
theorem apply_no {x:Xc} {c:Nat→Int} (h:¬ chkE c=0):apply x c=(x,rep c (1,0,0)):=by
 unfold apply;rw [if_neg (fun k=>h k.2)]
theorem apply_zero {x:Xc} {c:Nat→Int} (hx:RightX x) (h:chkE c=0) (h0:c 2=0):apply x c=(x,z5):=by
 unfold apply;rw [if_pos ⟨rightX_iff.2 hx,h⟩,if_pos h0]
theorem apply_cases {x:Xc} {c:Nat→Int} (hx:RightX x) (h:chkE c=0) (h0:c 2≠0) :
  (∃ s,fnd (c 0) x.sess=some s∧s.2.1=c 1∧apply x c=(x,s.2.2))∨(∃ s,fnd (c 0) x.sess=some s∧c 1<s.2.1∧apply x c=(x,rep c (13,0,0)))
 ∨(Se.last (c 0) x.sess<c 1∧okS (mk (rep c (exec x c).2))=true∧apply x c=({ (exec x c).1 with sess:=Se.put (mk (rep c (exec x c).2)) x.sess },rep c (exec x c).2)):=by
 have hc:=chk_ok h h0
 unfold apply
 rw [if_pos ⟨rightX_iff.2 hx,h⟩,if_neg h0]
 rcases look_at x.sess hc.2.2.1.1 (a:=c 0) with ⟨s,h1,h2,h3⟩ | ⟨s,h1,h2,h3⟩ | ⟨h1,h3⟩
 ·rw [h3];exact .inl ⟨s,h1,h2,rfl⟩
 ·rw [h3];exact .inr (.inl ⟨s,h1,h2,rfl⟩)
 ·rw [h3,if_neg (by decide),if_neg (by decide)]
  have ho:okS (mk (rep c (exec x c).2))=true:=okS_iff.2 ⟨hc.2.1.1,by show c 0<64;omega,hc.2.2.1.1,hc.2.2.1.2,rfl,rfl⟩
  refine .inr (.inr ⟨h1,ho,?_⟩)
  have hs:=(exec_keep hx c).sess
  have hn:noteL (exec x c).1.sess (rep c (exec x c).2)=Se.put (mk (rep c (exec x c).2)) x.sess:=by
   unfold noteL
   have he:noteE (exec x c).1.sess (rep c (exec x c).2)=0:=by
    unfold noteE
    rw [hs,Se.right_iff.2 hx.sess,ho,if_pos (by rfl),if_neg (by show ¬ c 1≤Se.last (c 0) x.sess;omega)]
   rw [if_pos he,hs]
  rw [hn]
structure ApplyK (x:Xc) (c:Nat→Int) (R:Xc × Rp):Prop where
 right:RightX R.1
 free:∀ u:Pu,u.1≠c 0→Ac.get R.1.free u=Ac.get x.free u
 inn:∀ u:Pu,u.1≠c 0→Ac.get R.1.inn u=Ac.get x.inn u
 out:∀ u:Pu,u.1≠c 0→Ac.get R.1.out u=Ac.get x.out u
 sess:∀ a,a≠c 0→fnd a R.1.sess=fnd a x.sess
 len:R.1.lanes.length=x.lanes.length
 lanes:∀ j:Nat,¬ (chkE c=0∧laneB (c 2)=true∧c 3=j)→R.1.lanes[j]?=x.lanes[j]?
 err:R.2.2.2.1≠0→∃ s,R.1={ x with sess:=s }
theorem ApplyK.same {x:Xc} (h:RightX x) (c:Nat→Int) (r:Rp):ApplyK x c (x,r):=⟨h,fun _ _=>rfl,fun _ _=>rfl,fun _ _=>rfl,fun _ _=>rfl,rfl,fun _ _=>rfl,fun _=>⟨x.sess,rfl⟩⟩
theorem apply_keep {x:Xc} (h:RightX x) (c:Nat→Int):ApplyK x c (apply x c):=by
 by_cases hc:chkE c=0
 ·by_cases h0:c 2=0
  ·rw [apply_zero h hc h0];exact ApplyK.same h _ _
  ·have hcc:=chk_ok hc h0
   rcases apply_cases h hc h0 with ⟨s,_,_,e⟩ | ⟨s,_,_,e⟩ | ⟨h1,ho,e⟩
   ·rw [e];exact ApplyK.same h _ _
   ·rw [e];exact ApplyK.same h _ _
   ·rw [e]
    have k:=exec_keep h c
    refine ⟨⟨k.right.few,k.right.lane,k.right.free,k.right.inn,k.right.out,Se.right_put ho h.sess⟩,k.free,k.inn,k.out,fun a ha=>?_,k.len,fun j hj=>k.lanes j fun e2=>hj ⟨hc,?_⟩,fun he=>?_⟩
    ·show fnd a (Se.put _ _)=_
     rw [Se.fnd_put a h.sess,if_neg (show ¬ (mk (rep c (exec x c).2)).1=a from fun e2:c 0=a=>ha e2.symm)]
    ·unfold onL at e2
     by_cases kl:laneB (c 2)=true
     ·rw [if_pos kl] at e2
      have:=Option.some.inj e2
      exact ⟨kl,by omega⟩
     ·rw [if_neg kl] at e2;cases e2
    ·have e3:=k.err he
     refine ⟨Se.put (mk (rep c (exec x c).2)) x.sess,?_⟩
     show ({ (exec x c).1 with sess:=Se.put (mk (rep c (exec x c).2)) x.sess }:Xc)=_
     rw [show (exec x c).1=x from by rw [e3]]
 ·rw [apply_no hc];exact ApplyK.same h _ _
def NoNum (r:Rp):Prop:=r.2.2.1≠0→r.2.2.2.1=0∧r.2.2.2.2=0
def Quiet (x:Xc):Prop:=∀ s∈x.sess,NoNum s.2.2
theorem apply_again {y:Xc} (h:RightX y) {c:Nat→Int} (hc:chkE c=0) (h0:c 2≠0) {s:Sn} (h1:fnd (c 0) y.sess=some s) (h2:s.2.1=c 1):apply y c=(y,s.2.2):=by
 rcases apply_cases h hc h0 with ⟨t,k1,k2,e⟩ | ⟨t,k1,k2,e⟩ | ⟨k1,ho,e⟩
 ·rw [h1] at k1;obtain rfl:=Option.some.inj k1;exact e
 ·rw [h1] at k1;obtain rfl:=Option.some.inj k1;omega
 ·unfold Se.last at k1;rw [h1] at k1;simp only at k1;omega
end Go.Proofs.YtjhocpcpkemcaaaGreat.Ex
namespace Go.Proofs.YtjhocpcpkemcaaaGreat.Au
open Bk (bestP cntB)
open Le (Lv Od flat opr)
open La (Ln RightN rightN rightN_iff reserved owedN rsv allO okO_of rsv_bd)
open Ac (Hd Pu tot total giveE giveL takeE takeL)
open Ex
noncomputable def held (a:Int):List Ln→Int
 | []=>0
 | l :: r=>(reserved l a+owedN l a)+held a r
noncomputable def balX (x:Xc) (a:Int):Int:=total x.inn a - total x.out a - total x.free a - held a x.lanes
def crossN (l:Ln):Bool:=(bestP l.2.2.1.1 != 0)&&(bestP l.2.2.1.2.1 != 0)&&decide (bestP l.2.2.1.2.1≤bestP l.2.2.1.1)
def crossX (x:Xc):Bool:=x.lanes.any crossN
noncomputable def all0 (x:Xc) (k:Nat):Bool:=(List.range k).all fun a=>balX x a==0
noncomputable def soundX (x:Xc):Bool:=rightX x&&!crossX x&&all0 x 8
theorem held_app (a:Int) (l m:List Ln):held a (l++m)=held a l+held a m:=by
 induction l with
 | nil=>simp [held]
 | cons h r ih=>rw [List.cons_append,held,held,ih];omega
theorem total_right {l:List Hd} (h:Ac.Right l) (a:Int):total l a=tot a l:=by unfold total;rw [Ac.right_iff.2 h];rfl
theorem total_bd (l:List Hd) (a:Int):0≤total l a∧total l a≤576460752303423488:=by
 cases h:Ac.right l
 ·unfold total;rw [h,if_neg (by decide)];exact ⟨by decide,by decide⟩
 ·have:=Ac.tot_bd (Ac.right_iff.1 h) a l.length
  rw [List.take_length] at this
  rw [total_right (Ac.right_iff.1 h)];exact this
theorem res_right {l:Ln} (h:RightN l) (a:Int):reserved l a=rsv l.1 l.2.1 a (allO l.2.2.1):=by unfold reserved;rw [if_pos (rightN_iff.2 h)]
theorem owed_right {l:Ln} (h:RightN l) (a:Int):owedN l a=tot a l.2.2.2:=by unfold owedN;rw [if_pos (rightN_iff.2 h),total_right h.owed]
theorem res_bd (l:Ln) (a:Int):0≤reserved l a∧reserved l a≤43980465111040:=by
 by_cases h:rightN l=true
 ·have hr:=rightN_iff.1 h
  rw [res_right hr]
  have h1:=rsv_bd (b:=l.1) (q:=l.2.1) (a:=a) (okO_of hr.book)
  have h2:=hr.book.cnt
  have h3:(allO l.2.2.1).length≤40:=by unfold allO;rw [List.length_append];unfold cntB at h2;exact h2
  omega
 ·unfold reserved;rw [if_neg h];exact ⟨by decide,by decide⟩
theorem owed_bd (l:Ln) (a:Int):0≤owedN l a∧owedN l a≤576460752303423488:=by
 unfold owedN
 split
 ·exact total_bd _ _
 ·exact ⟨by decide,by decide⟩
theorem held_bd (a:Int):∀ l:List Ln,0≤held a l∧held a l≤l.length*600000000000000000
 | []=>by simp [held]
 | l :: r=>by
  have h1:=res_bd l a
  have h2:=owed_bd l a
  have h3:=held_bd a r
  rw [held,List.length_cons]
  have e:((r.length+1:Nat):Int)*600000000000000000=r.length*600000000000000000+600000000000000000:=by rw [Int.natCast_add,Int.add_mul];omega
  rw [e];omega
theorem held_set {a:Int} {m:Ln}:∀ {L:List Ln} {i:Nat} {l:Ln},L[i]?=some l→held a (L.set i m)=held a L - (reserved l a+owedN l a)+(reserved m a+owedN m a)
 | [],_,_,h=>by simp at h
 | k :: r,0,l,h=>by
  obtain rfl:k=l:=by simpa using h
  rw [List.set_cons_zero,held,held];omega
 | k :: r,i+1,l,h=>by
  rw [List.set_cons_succ,held,held,held_set (by simpa using h)];omega
def Bal (x:Xc):Prop:=∀ a,balX x a=0
theorem execP_bal {x:Xc} (h:RightX x) (hb:Bal x) (c:Nat→Int):Bal (execP x c).1:=by
 unfold execP
 by_cases h1:c 2≠7∧c 8=0
 ·rw [if_pos h1];exact hb
 rw [if_neg h1]
 by_cases h2:c 2=1
 ·rw [if_pos h2]
  by_cases h3:giveE x.inn (c 0,c 4) (c 8)=0
  ·rw [if_pos h3]
   by_cases h4:giveE x.free (c 0,c 4) (c 8)=0
   ·rw [if_pos h4]
    intro a
    have h0:=hb a
    unfold balX at h0 ⊢
    obtain ⟨r1,_,t1⟩:=Ac.give_done h3
    obtain ⟨r2,_,t2⟩:=Ac.give_done h4
    simp only
    rw [total_right r1,total_right r2,t1,t2]
    rw [total_right h.inn,total_right h.free] at h0
    omega
   ·rw [if_neg h4];exact hb
  ·rw [if_neg h3];exact hb
 rw [if_neg h2]
 by_cases h5:c 2=2
 ·rw [if_pos h5]
  by_cases h3:takeE x.free (c 0,c 4) (c 8)=0
  ·rw [if_pos h3]
   by_cases h4:giveE x.out (c 0,c 4) (c 8)=0
   ·rw [if_pos h4]
    intro a
    have h0:=hb a
    unfold balX at h0 ⊢
    obtain ⟨r1,_,t1⟩:=Ac.take_done h.free (La.take_ok h3).2.1 h3
    obtain ⟨r2,_,t2⟩:=Ac.give_done h4
    simp only
    rw [total_right r1,total_right r2,t1,t2]
    rw [total_right h.out,total_right h.free] at h0
    omega
   ·rw [if_neg h4];exact hb
  ·rw [if_neg h3];exact hb
 ·rw [if_neg h5];exact hb
theorem execL_bal {x:Xc} (h:RightX x) (hb:Bal x) (c:Nat→Int):Bal (execL x c).1:=by
 unfold execL
 cases hl:x.lanes[(c 3).toNat]? with
 | none=>exact hb
 | some l =>
  have hr:=h.lane l (List.mem_of_getElem? hl)
  have k:=(act_keep hr h.free c).keep
  intro a
  have h0:=hb a
  have h1:=k.tot' a
  unfold balX at h0 ⊢
  simp only
  rw [total_right h.free] at h0
  rw [total_right k.free,held_set hl,res_right hr,owed_right hr,res_right k.right,owed_right k.right,k.base,k.quote]
  omega
theorem exec_bal {x:Xc} (h:RightX x) (hb:Bal x) (c:Nat→Int):Bal (exec x c).1:=by
 unfold exec
 split
 ·exact execL_bal h hb c
 ·exact execP_bal h hb c
theorem apply_bal {x:Xc} (h:RightX x) (hb:Bal x) (c:Nat→Int):Bal (apply x c).1:=by
 by_cases hc:Cm.chkE c=0
 ·by_cases h0:c 2=0
  ·rw [apply_zero h hc h0];exact hb
  ·rcases apply_cases h hc h0 with ⟨s,_,_,e⟩ | ⟨s,_,_,e⟩ | ⟨h1,ho,e⟩
   ·rw [e];exact hb
   ·rw [e];exact hb
   ·rw [e];exact exec_bal h hb c
 ·rw [apply_no hc];exact hb
theorem cross_right {l:Ln} (h:RightN l):crossN l=false:=by
 unfold crossN bestP
 cases h1:(flat l.2.2.1.1).head? with
 | none=>rfl
 | some o =>
  cases h2:(flat l.2.2.1.2.1).head? with
  | none=>simp
  | some p =>
   have:=h.book.cross o (List.mem_of_head? h1) p (List.mem_of_head? h2)
   simp only
   rw [decide_eq_false (by omega),Bool.and_false]
theorem sound_right {x:Xc} (h:RightX x) (hb:Bal x):soundX x=true:=by
 unfold soundX
 rw [rightX_iff.2 h]
 have h1:crossX x=false:=by
  unfold crossX
  rw [List.any_eq_false]
  intro l hl
  rw [cross_right (h.lane l hl)];decide
 have h2:all0 x 8=true:=by
  unfold all0
  rw [List.all_eq_true]
  intro a _
  rw [hb a];rfl
 rw [h1,h2];rfl
end Go.Proofs.YtjhocpcpkemcaaaGreat.Au
namespace Go.Proofs.YtjhocpcpkemcaaaGreat.Au
open Go.RowKit
open Rw
open Da
open Le (LL eL Lv flat)
open Bk (BL bestP)
open La (Ln LN LB cN reserved owedN Sm)
open Ac (Hd Pu HL total)
open Se (ret_bool)
open Ex
theorem ret_int {k:IntKind} {a b:Int} (h:a=b):Ending.returned (.int k a)=.returned (.int k b):=by rw [h]
theorem ln_lb {B:Bs} {lb lq nn:Int} {bu se:List Lv} {od:List Hd} {x y o:Value} {w:World} (h:LN B (lb,lq,(bu,se,nn),od) (.agg (cN lb lq x y nn o)) w) (hB:B.lo≤w.heap.size):LB B (lb,lq,(bu,se,nn),od) x y o w.heap.size (w.alloc (.cells (cN lb lq x y nn o) 59)):=by
 obtain ⟨x',y',o',e,h1,h2,h3⟩:=h
 simp [cN] at e
 obtain ⟨rfl,rfl,rfl⟩:=e
 exact LB.made (l:=(lb,lq,(bu,se,nn),od)) h1 h2 h3 hB
theorem top_is {B:Bs} {b:Bk.Bk} {v:Value} {w:World} {p q:Int} (h:BL B b v w) (hp:bestP b.1=p) (hq:bestP b.2.1=q) (h1:b.1.length≤1000) (h2:(flat b.1).length≤1000) (h3:b.2.1.length≤1000) (h4:(flat b.2.1).length≤1000) :
  Calls Tryz.prog 75 #[v] w fun e w'=>e=.returned (.tuple #[.int .i64 p,.int .i64 q])∧Below w.heap.size w w':=by
 rw [← hp,← hq];exact Bk.top_any B b v w h (by omega) (by omega) (by omega) (by omega)
theorem cross_cases (p q:Int):((p != 0)=false∨(p != 0)=true∧(q != 0)=false∨(p != 0)=true∧(q != 0)=true∧decide (q≤p)=false)∧((p != 0)&&(q != 0)&&decide (q≤p))=false∨((p != 0)=true∧(q != 0)=true∧decide (q≤p)=true)∧((p != 0)&&(q != 0)&&decide (q≤p))=true:=by
 cases (p != 0)<;>cases (q != 0)<;>cases decide (q≤p)<;>simp
theorem crossed_any (n:Nat) (x:Xc) (v:Value) (w:World) (h:XV n x v w) (hn:n≤w.heap.size) (hs:SmX x) :
  Calls Tryz.prog 32 #[v] w fun e w'=>e=.returned (.bool (crossX x))∧Below w.heap.size w w':=by
 obtain ⟨_,_,_,_,_,rfl,hd⟩:=h
 obtain ⟨a1,d1,a2,d2,a3,d3,a4,d4,a5,d5,rfl,rfl,rfl,rfl,rfl⟩:=hd.open'
 obtain ⟨n1,q1⟩:∃ q,x.free.length=q:=⟨_,rfl⟩
 obtain ⟨N,q2⟩:∃ q,x.lanes.length=q:=⟨_,rfl⟩
 obtain ⟨n3,q3⟩:∃ q,x.sess.length=q:=⟨_,rfl⟩
 obtain ⟨n4,q4⟩:∃ q,x.inn.length=q:=⟨_,rfl⟩
 obtain ⟨n5,q5⟩:∃ q,x.out.length=q:=⟨_,rfl⟩
 have hNs:=hd.lanes
 rw [q1,q2,q3,q4,q5] at hd ⊢
 rw [q2] at hNs
 have hm:N≤1000:=by rw [← q2];exact hs.lanes
 obtain ⟨L,hL⟩:∃ L,x.lanes=L:=⟨_,rfl⟩
 have hsl:=hs.lane
 rw [hL] at hNs q2 hsl
 obtain ⟨R,hR⟩:∃ R,crossX x=R:=⟨_,rfl⟩
 rw [hR]
 unfold crossX at hR
 rw [hL] at hR
 have HR:=lH hR
 have HN:=lH q2
 have HS:=lH hsl
 obtain ⟨_,_,e2,h1⟩:=hNs
 simp only [Value.slice.injEq] at e2
 obtain ⟨rfl,-,rfl⟩:=e2
 have HA:=lH h1
 have hx0:=XB.made hd hn
 obtain ⟨r0,r1,r2,r3,r4⟩:=hx0.cells
 have hb0:=below1 w (.cells #[.slice a1 n1 d1,.slice a2 N d2,.slice a3 n3 d3,.slice a4 n4 d4,.slice a5 n5 d5] 28)
 have HB0:=lH hb0
 have Hn:=lH hn
 clear hd hs hL q1 q2 q3 q4 q5 hR hsl h1 hx0 hb0 hn
 go_enter Tryz.func32,Tryz.ntmps32
 go_wp2
 clear r0 r1 r2 r3 r4
 go_loopw [10] (fun i wr=>∃ k:Nat,k≤N∧i=.int .i64 k∧Below w.heap.size w wr∧(L.take k).any crossN=false) (fun i _=>N - (intOf i).toNat)
 case atStart=>exact ⟨0,Nat.zero_le _,rfl,HB0.out,rfl⟩
 case round =>
  obtain ⟨k,hk,rfl,hb,hall⟩:=hrel
  have HL:=lH hall
  clear hall
  by_cases hlt:k<N
  ·have hlt2:(k:Int)<N:=by omega
   have hkl:k<L.length:=by rw [HN.out];exact hlt
   rcases HA.out with ⟨e,_⟩ | ⟨b,off,rfl,hat⟩
   ·rw [e] at hkl;cases hkl
   have hat2:=Lies.keep eN 59 hat (Keeps.of_below hb)
   have hbb:=hat2.1
   obtain ⟨j1,w1,x1,j2,w2,x2,j3,w3,x3,hln,r0,r1,r2,r3,r4,r5⟩:=atN hat2 k hkl
   have hsl:=HS.out _ (List.getElem_mem hkl)
   have hT:(L.take (k+1)).any crossN=crossN L[k]:=by rw [Da.take_snoc hkl,List.any_append,HL.out];simp
   obtain ⟨⟨lb,lq,⟨bu,se,nn⟩,od⟩,hlnq⟩:∃ ln,L[k]=ln:=⟨_,rfl⟩
   rw [hlnq] at hln r0 r1 r4 hsl hT
   simp only at hln r0 r1 r4
   obtain ⟨p,hp⟩:∃ p,bestP bu=p:=⟨_,rfl⟩
   obtain ⟨q,hq⟩:∃ q,bestP se=q:=⟨_,rfl⟩
   obtain ⟨cc,hcc⟩:∃ c,crossN (lb,lq,(bu,se,nn),od)=c:=⟨_,rfl⟩
   rw [hcc] at hT
   unfold crossN at hcc
   simp only at hcc
   rw [hp,hq] at hcc
   obtain ⟨V,hV⟩:∃ V,V=wr.alloc (.cells #[.int .i64 lb,.int .i64 lq,.slice j1 w1 x1,.slice j2 w2 x2,.int .i64 nn,.slice j3 w3 x3] 59):=⟨_,rfl⟩
   have hbV:Below wr.heap.size wr V:=hV ▸ below1 wr _
   have hlb:=ln_lb hln (show n≤wr.heap.size from Nat.le_trans Hn.out hb.size)
   rw [← hV] at hlb
   obtain ⟨k0,k1,k2,k3,k4,k5⟩:=hlb.cells
   simp only at k0 k1 k4
   have HC:=lH (top_is (w:=V) hlb.bl hp hq hsl.m1 hsl.m2 hsl.m3 hsl.m4)
   simp only at HC
   have HT:=lH hT
   rw [hV] at k0 k1 k2 k3 k4 k5
   have HV:=lH hV
   have HB:=lH (nx hb hbV)
   have T:=cross_cases p q
   rw [hcc] at T
   have HTc:=lH T
   clear hV hbV hln hlb hat hat2 hsl hlnq hT hp hq T hcc
   go_wp2_with fail
   rw [← HV.out]
   refine HC.out.mono ?_
   rintro e w2 ⟨rfl,hb2⟩
   have hbf:=nx HB.out hb2
   clear r0 r1 r2 r3 r4 r5 k0 k1 k2 k3 k4 k5 hb2
   rcases HTc.out with ⟨h3,hc⟩ | ⟨⟨t1,t2,t3⟩,hc⟩
   ·rw [hc] at HT
    clear hc
    rcases h3 with t1 | ⟨t1,t2⟩ | ⟨t1,t2,t3⟩
    all_goals
     go_wp2
     go_roundw
     case rel=>exact ⟨k+1,by omega,by go_num,hbf,HT.out⟩
     case measure=>simp [intOf];omega
   ·rw [hc] at HT
    clear hc
    have HF:=lH (show R=true from by
     rw [← HR.out,← List.take_append_drop (k+1) L,List.any_append,HT.out];rfl)
    go_wp2
    go_ret
    exact ⟨ret_bool HF.out.symm,hbf⟩
  ·obtain rfl:k=N:=by omega
   have HF:=lH (show R=false from by rw [← HR.out,← HL.out,← HN.out,List.take_length])
   go_wp2
   go_ret
   exact ⟨ret_bool HF.out.symm,hb⟩
theorem crossed_is {n:Nat} {x:Xc} {v:Value} {w:World} {r:Bool} (H:Hid (crossX x=r)) (h:XV n x v w) (hn:n≤w.heap.size) (hs:SmX x) :
  Calls Tryz.prog 32 #[v] w fun e w'=>e=.returned (.bool r)∧Below w.heap.size w w':=by
 rw [← H.out];exact crossed_any n x v w h hn hs
theorem total_is {lo:Nat} {l:List Hd} {v:Value} {a t:Int} {w:World} (H:Hid (total l a=t)) (h:HL lo l v w) (hm:l.length≤1000) :
  Calls Tryz.prog 38 #[v,.int .i64 a] w fun e w'=>e=.returned (.int .i64 t)∧Below w.heap.size w w':=by
 rw [← H.out];exact Ac.total_any l v a w h (by omega)
theorem res_is {B:Bs} {l:Ln} {v:Value} {a t:Int} {w:World} (H:Hid (reserved l a=t)) (h:LN B l v w) (hB:B.le w.heap.size) (hs:Sm l) :
  Calls Tryz.prog 67 #[v,.int .i64 a] w fun e w'=>e=.returned (.int .i64 t)∧Below w.heap.size w w':=by
 rw [← H.out];exact La.lreserved_any B l v a w h hB hs
theorem owed_is {B:Bs} {l:Ln} {v:Value} {a t:Int} {w:World} (H:Hid (owedN l a=t)) (h:LN B l v w) (hB:B.le w.heap.size) (hs:Sm l) :
  Calls Tryz.prog 68 #[v,.int .i64 a] w fun e w'=>e=.returned (.int .i64 t)∧Below w.heap.size w w':=by
 rw [← H.out];exact La.lowed_any B l v a w h hB hs
theorem held_take {a:Int} {L:List Ln} {k:Nat} (h:k<L.length):held a (L.take (k+1))=held a (L.take k)+(reserved L[k] a+owedN L[k] a):=by
 rw [Da.take_snoc h,held_app,held,held,Int.add_zero]
theorem bal_any (n:Nat) (x:Xc) (v:Value) (a:Int) (w:World) (h:XV n x v w) (hn:n≤w.heap.size) (hs:SmX x) (h6:x.lanes.length≤6) :
  Calls Tryz.prog 28 #[v,.int .i64 a] w fun e w'=>e=.returned (.int .i64 (balX x a))∧Below w.heap.size w w':=by
 obtain ⟨_,_,_,_,_,rfl,hd⟩:=h
 obtain ⟨a1,d1,a2,d2,a3,d3,a4,d4,a5,d5,rfl,rfl,rfl,rfl,rfl⟩:=hd.open'
 obtain ⟨n1,q1⟩:∃ q,x.free.length=q:=⟨_,rfl⟩
 obtain ⟨N,q2⟩:∃ q,x.lanes.length=q:=⟨_,rfl⟩
 obtain ⟨n3,q3⟩:∃ q,x.sess.length=q:=⟨_,rfl⟩
 obtain ⟨n4,q4⟩:∃ q,x.inn.length=q:=⟨_,rfl⟩
 obtain ⟨n5,q5⟩:∃ q,x.out.length=q:=⟨_,rfl⟩
 have hNs:=hd.lanes
 rw [q1,q2,q3,q4,q5] at hd ⊢
 rw [q2] at hNs
 have hm:N≤6:=by rw [← q2];exact h6
 obtain ⟨L,hL⟩:∃ L,x.lanes=L:=⟨_,rfl⟩
 have hsl:=hs.lane
 rw [hL] at hNs q2 hsl
 obtain ⟨R,hR⟩:∃ R,balX x a=R:=⟨_,rfl⟩
 rw [hR]
 unfold balX at hR
 rw [hL] at hR
 have b1:=total_bd x.free a
 have b4:=total_bd x.inn a
 have b5:=total_bd x.out a
 obtain ⟨t1,e1⟩:∃ t,total x.free a=t:=⟨_,rfl⟩
 obtain ⟨t4,e4⟩:∃ t,total x.inn a=t:=⟨_,rfl⟩
 obtain ⟨t5,e5⟩:∃ t,total x.out a=t:=⟨_,rfl⟩
 rw [e1,e4,e5] at hR
 rw [e1] at b1
 rw [e4] at b4
 rw [e5] at b5
 have H1:=lH e1
 have H4:=lH e4
 have H5:=lH e5
 have HR:=lH hR
 have HN:=lH q2
 have HS:=lH hsl
 obtain ⟨_,_,e2,h1⟩:=hNs
 simp only [Value.slice.injEq] at e2
 obtain ⟨rfl,-,rfl⟩:=e2
 have HA:=lH h1
 have hx0:=XB.made hd hn
 obtain ⟨V,hV⟩:∃ V,V=w.alloc (.cells #[.slice a1 n1 d1,.slice a2 N d2,.slice a3 n3 d3,.slice a4 n4 d4,.slice a5 n5 d5] 28):=⟨_,rfl⟩
 have hbV:Below w.heap.size w V:=hV ▸ below1 w _
 rw [← hV] at hx0
 have HX:=lH hx0
 have HSm:=lH hs
 have hF:∀ u,Below V.heap.size V u→u.cell? ⟨w.heap.size,0,none⟩=some (.slice a1 n1 d1)∧u.cell? ⟨w.heap.size,3,none⟩=some (.slice a4 n4 d4)∧u.cell? ⟨w.heap.size,4,none⟩=some (.slice a5 n5 d5):=fun u hu=>by
  obtain ⟨r0,r1,r2,r3,r4⟩:=(HX.out.stays hu).cells
  exact ⟨r0,r3,r4⟩
 have HV:=lH hV
 have HB:=lH hbV
 have Hn:=lH hn
 clear hd hs hL q1 q2 q3 q4 q5 hR hsl h1 hx0 hV hbV hn e1 e4 e5 h6
 go_enter Tryz.func28,Tryz.ntmps28
 go_wp2
 rw [← HV.out]
 refine Rf.rg [0,1,2,3,4,5,6,7,8,9,10,11,12,13,14] ?_
 repeat (first | (refine Rf.Steps.sk ?_;simp only [Act.put,sA,sB,sC]) | (refine Rf.Steps.pu (v:=?_) ?_ ?_;rotate_left;(intro w_ hS_;have hk_:=hF w_ hS_;go_simp<;>with_reducible rfl);simp only [Act.put,sA,sB,sC]) | (refine Rf.Steps.ca (v:=?_) (f:=?_) (args:=?_) ?_ ?_ ?_;rotate_left 3;(intro w_ hS_;have hk_:=hF w_ hS_;go_simp<;>first | with_reducible rfl | (constructor<;>with_reducible rfl));(intro w_ hS_;have hk_:=hF w_ hS_;first | (go_at_call 38;(first | with_reducible refine (total_is H4 (HX.out.stays hS_).d.inn HSm.out.inn).mono ?_ | with_reducible refine (total_is H5 (HX.out.stays hS_).d.out HSm.out.out).mono ?_ | with_reducible refine (total_is H1 (HX.out.stays hS_).d.free HSm.out.free).mono ?_);first | (rintro e w_ ⟨rfl,rfl⟩;refine ⟨?_,Below.refl _ _⟩;with_reducible rfl) | (rintro e w_ ⟨rfl,hb_⟩;refine ⟨?_,hb_⟩;with_reducible rfl)));simp only [Act.put,sA,sB,sC]))
 refine Rf.Steps.nil (by kernel_rfl) ?_
 intro w1 hb1
 have hw1:=nx HB.out hb1
 have HX1:=lH (HX.out.stays hb1)
 obtain ⟨r0,r1,r2,r3,r4⟩:=HX1.out.cells
 clear hF
 go_wp2
 clear r0 r1 r2 r3 r4
 go_loopw [5,25] (fun t i wr=>∃ k:Nat,k≤N∧i=.int .i64 k∧t=.int .i64 (t4 - t5 - t1 - held a (L.take k))∧Below w.heap.size w wr) (fun _ i _=>N - (intOf i).toNat)
 case atStart=>exact ⟨0,Nat.zero_le _,rfl,congrArg (Value.int .i64) (by rw [IntKind.wrap_i64,IntKind.wrap_i64,List.take_zero,held];omega),hw1⟩
 case round =>
  obtain ⟨k,hk,rfl,rfl,hb⟩:=hrel
  have hbd:=held_bd a (L.take k)
  have hln0:=List.length_take_le k L
  obtain ⟨hk0,hhk⟩:∃ q,held a (L.take k)=q:=⟨_,rfl⟩
  rw [hhk] at hbd ⊢
  have HK:=lH hhk
  have hbd1:0≤hk0:=hbd.1
  have hbd2:hk0≤3600000000000000000:=by omega
  clear hhk hbd hln0
  by_cases hlt:k<N
  ·have hlt2:(k:Int)<N:=by omega
   have hkl:k<L.length:=by rw [HN.out];exact hlt
   rcases HA.out with ⟨e,_⟩ | ⟨b,off,rfl,hat⟩
   ·rw [e] at hkl;cases hkl
   have hat2:=Lies.keep eN 59 hat (Keeps.of_below hb)
   have hbb:=hat2.1
   obtain ⟨j1,w1,x1,j2,w2,x2,j3,w3,x3,hln,r0,r1,r2,r3,r4,r5⟩:=atN hat2 k hkl
   have hsl:=HS.out _ (List.getElem_mem hkl)
   have hT:=held_take (a:=a) hkl
   obtain ⟨⟨lb,lq,⟨bu,se,nn⟩,od⟩,hlnq⟩:∃ ln,L[k]=ln:=⟨_,rfl⟩
   rw [hlnq] at hln r0 r1 r4 hsl hT
   simp only at hln r0 r1 r4
   have c1:=res_bd (lb,lq,(bu,se,nn),od) a
   have c2:=owed_bd (lb,lq,(bu,se,nn),od) a
   obtain ⟨p,hp⟩:∃ p,reserved (lb,lq,(bu,se,nn),od) a=p:=⟨_,rfl⟩
   obtain ⟨q,hq⟩:∃ q,owedN (lb,lq,(bu,se,nn),od) a=q:=⟨_,rfl⟩
   rw [hp,hq,HK.out] at hT
   rw [hp] at c1
   rw [hq] at c2
   have HP:=lH hp
   have HQ:=lH hq
   obtain ⟨U,hU⟩:∃ V,V=wr.alloc (.cells #[.int .i64 lb,.int .i64 lq,.slice j1 w1 x1,.slice j2 w2 x2,.int .i64 nn,.slice j3 w3 x3] 59):=⟨_,rfl⟩
   have hbU:Below wr.heap.size wr U:=hU ▸ below1 wr _
   have hlb:=ln_lb hln (show n≤wr.heap.size from Nat.le_trans Hn.out hb.size)
   rw [← hU] at hlb
   have HLB:=lH hlb
   have HSl:=lH hsl
   have HBs:=lH (show ∀ u,Below U.heap.size U u→(Bs.of n).le u.heap.size from fun u hu=>⟨Nat.le_trans Hn.out (nx (nx hb hbU) hu).size,fun _ h=>h.elim⟩)
   have hF2:∀ u,Below U.heap.size U u→row u wr.heap.size=#[.int .i64 lb,.int .i64 lq,.slice j1 w1 x1,.slice j2 w2 x2,.int .i64 nn,.slice j3 w3 x3]:=fun u hu=>(HLB.out.stays hu).row
   have HT:=lH hT
   have HU:=lH hU
   have HBU:=lH (nx hb hbU)
   clear hU hbU hln hlb hat hat2 hsl hlnq hT hp hq
   go_wp2_with fail
   rw [← HU.out]
   clear r0 r1 r2 r3 r4 r5
   refine Rf.rg [0,1,2,3,4,5,6,7,8,9] ?_
   repeat (first | (refine Rf.Steps.sk ?_;simp only [Act.put,sA,sB,sC]) | (refine Rf.Steps.pu (v:=?_) ?_ ?_;rotate_left;(intro w_ hS_;have hk_:=hF2 w_ hS_;go_simp<;>with_reducible rfl);simp only [Act.put,sA,sB,sC]) | (refine Rf.Steps.ca (v:=?_) (f:=?_) (args:=?_) ?_ ?_ ?_;rotate_left 3;(intro w_ hS_;have hk_:=hF2 w_ hS_;go_simp<;>first | with_reducible rfl | (constructor<;>with_reducible rfl));(intro w_ hS_;have hk_:=hF2 w_ hS_;first | (go_at_call 67;refine (res_is HP (HLB.out.stays hS_).ln (HBs.out w_ hS_) HSl.out).mono ?_;first | (rintro e w_ ⟨rfl,rfl⟩;refine ⟨?_,Below.refl _ _⟩;with_reducible rfl) | (rintro e w_ ⟨rfl,hb_⟩;refine ⟨?_,hb_⟩;with_reducible rfl)) | (go_at_call 68;refine (owed_is HQ (HLB.out.stays hS_).ln (HBs.out w_ hS_) HSl.out).mono ?_;first | (rintro e w_ ⟨rfl,rfl⟩;refine ⟨?_,Below.refl _ _⟩;with_reducible rfl) | (rintro e w_ ⟨rfl,hb_⟩;refine ⟨?_,hb_⟩;with_reducible rfl)));simp only [Act.put,sA,sB,sC]))
   refine Rf.Steps.nil (by kernel_rfl) ?_
   intro w2 hb2
   have hbf:=nx HBU.out hb2
   clear hF2
   go_wp2
   go_roundw
   case rel=>exact ⟨k+1,by omega,by go_num,congrArg (Value.int .i64) (by rw [HT.out,IntKind.wrap_i64,IntKind.wrap_i64];omega),hbf⟩
   case measure=>simp [intOf];omega
  ·obtain rfl:k=N:=by omega
   have HF:=lH (show t4 - t5 - t1 - hk0=R from by rw [← HR.out,← HK.out,← HN.out,List.take_length])
   go_wp2
   go_ret
   exact ⟨ret_int HF.out,hb⟩
theorem bal_is {n:Nat} {x:Xc} {v:Value} {a t:Int} {w:World} (H:Hid (balX x a=t)) (h:XV n x v w) (hn:n≤w.heap.size) (hs:SmX x) (h6:x.lanes.length≤6) :
  Calls Tryz.prog 28 #[v,.int .i64 a] w fun e w'=>e=.returned (.int .i64 t)∧Below w.heap.size w w':=by
 rw [← H.out];exact bal_any n x v a w h hn hs h6
end Go.Proofs.YtjhocpcpkemcaaaGreat.Au
namespace Go.Proofs.YtjhocpcpkemcaaaGreat.Au
open Go.RowKit
open Rw
open Da
open Le (LL OL eL eO Lv Od flat at5)
open Bk (BL bestP)
open La (Ln LN LB cN reserved owedN Sm ordsO_any)
open Ac (Hd Pu HL total ofL)
open Se (ret_bool)
open Ex
theorem all0_succ (x:Xc) (k:Nat):all0 x (k+1)=(all0 x k&&(balX x k==0)):=by
 unfold all0;rw [List.range_succ,List.all_append];simp
theorem all0_le (x:Xc) {k:Nat}:∀ {m:Nat},k≤m→all0 x k=false→all0 x m=false
 | 0,h,e=>by
  obtain rfl:k=0:=by omega
  exact e
 | m+1,h,e=>by
  by_cases c:k=m+1
  ·subst c;exact e
  ·rw [all0_succ,all0_le x (by omega) e];rfl
theorem sound_any (n:Nat) (x:Xc) (v:Value) (w:World) (h:XV n x v w) (hn:n≤w.heap.size) (hs:SmX x) :
  Calls Tryz.prog 34 #[v] w fun e w'=>e=.returned (.bool (soundX x))∧Below w.heap.size w w':=by
 obtain ⟨_,_,_,_,_,rfl,hd⟩:=h
 obtain ⟨a1,d1,a2,d2,a3,d3,a4,d4,a5,d5,rfl,rfl,rfl,rfl,rfl⟩:=hd.open'
 obtain ⟨n1,q1⟩:∃ q,x.free.length=q:=⟨_,rfl⟩
 obtain ⟨n2,q2⟩:∃ q,x.lanes.length=q:=⟨_,rfl⟩
 obtain ⟨n3,q3⟩:∃ q,x.sess.length=q:=⟨_,rfl⟩
 obtain ⟨n4,q4⟩:∃ q,x.inn.length=q:=⟨_,rfl⟩
 obtain ⟨n5,q5⟩:∃ q,x.out.length=q:=⟨_,rfl⟩
 rw [q1,q2,q3,q4,q5] at hd ⊢
 obtain ⟨b1,e1⟩:∃ b,rightX x=b:=⟨_,rfl⟩
 obtain ⟨b2,e2⟩:∃ b,crossX x=b:=⟨_,rfl⟩
 obtain ⟨R,hR⟩:∃ R,soundX x=R:=⟨_,rfl⟩
 have HR:=lH (show R=(b1&&!b2&&all0 x 8) from by rw [← hR,← e1,← e2];rfl)
 rw [hR]
 have H1:=lH e1
 have H2:=lH e2
 have HS:=lH hs
 obtain ⟨V,hV⟩:∃ V,V=w.alloc (.cells #[.slice a1 n1 d1,.slice a2 n2 d2,.slice a3 n3 d3,.slice a4 n4 d4,.slice a5 n5 d5] 28):=⟨_,rfl⟩
 have hbV:Below w.heap.size w V:=hV ▸ below1 w _
 have HX:=lH (show XB n x (.slice a1 n1 d1) (.slice a2 n2 d2) (.slice a3 n3 d3) (.slice a4 n4 d4) (.slice a5 n5 d5) w.heap.size V from by rw [hV];exact XB.made hd hn)
 have HnV:=lH (show ∀ u,Below V.heap.size V u→n≤u.heap.size from fun u hu=>Nat.le_trans hn (nx hbV hu).size)
 have r0:=HX.out.row
 rw [hV] at r0
 have HV:=lH hV
 have HB:=lH hbV
 clear hs hd hR e1 e2 q1 q2 q3 q4 q5 hbV hV hn
 go_enter Tryz.func34,Tryz.ntmps34
 go_wp2_with fail
 rw [← HV.out]
 refine (rightX_is H1 ⟨_,_,_,_,_,rfl,HX.out.d⟩ (HnV.out V (Below.refl _ _)) HS.out).mono ?_
 rintro e w2 ⟨rfl,hb2⟩
 clear r0
 have r0:=(HX.out.stays hb2).row
 have hw2:=nx HB.out hb2
 cases b1
 ·clear hb2
  go_wp2
  go_ret
  exact ⟨ret_bool HR.out.symm,hw2⟩
 have HRt:=lH (rightX_iff.1 H1.out)
 go_wp2_with fail
 refine (crossed_is H2 ⟨_,_,_,_,_,rfl,(HX.out.stays hb2).d⟩ (HnV.out _ hb2) HS.out).mono ?_
 rintro e w3 ⟨rfl,hb3'⟩
 have hb3:=nx hb2 hb3'
 have HB3:=lH hb3
 clear r0 hb2 hb3' hw2
 cases b2
 rotate_left
 ·have hw3:=nx HB.out hb3
  clear hb3
  go_wp2
  go_ret
  exact ⟨ret_bool HR.out.symm,hw3⟩
 clear hb3
 go_wp2
 go_loopw [3,11] (fun _ i wr=>∃ k:Nat,k≤8∧i=.int .i64 k∧Below V.heap.size V wr∧all0 x k=true) (fun _ i _=>8 - (intOf i).toNat)
 case atStart=>exact ⟨0,by omega,rfl,HB3.out,rfl⟩
 case round =>
  obtain ⟨k,hk,rfl,hb,hall⟩:=hrel
  have HL:=lH hall
  clear hall
  have hwf:=nx HB.out hb
  by_cases hlt:k<8
  ·have hlt2:(k:Int)<8:=by omega
   obtain ⟨t,ht⟩:∃ t,balX x k=t:=⟨_,rfl⟩
   have hT:=all0_succ x k
   rw [HL.out,ht,Bool.true_and] at hT
   have HT:=lH hT
   have HBl:=lH ht
   have r0:=(HX.out.stays hb).row
   have hwr:=(HX.out.stays hb).lt
   clear hT ht
   go_wp2_with fail
   refine (bal_is HBl ⟨_,_,_,_,_,rfl,(HX.out.stays hb).d⟩ (HnV.out _ hb) HS.out HRt.out.few).mono ?_
   rintro e w4 ⟨rfl,hb4⟩
   have hb5:=nx hb hb4
   clear r0 hb4 hwr
   by_cases h0:t=0
   ·have hd1:(t != 0)=false:=by simpa using h0
    have HT1:Hid (all0 x (k+1)=true):=lH (by rw [HT.out,h0];rfl)
    clear h0
    go_wp2
    go_roundw
    case rel=>exact ⟨k+1,by omega,by go_num,hb5,HT1.out⟩
    case measure=>simp [intOf];omega
   ·have hd1:(t != 0)=true:=by simpa using h0
    have HF:Hid (R=false):=lH (by
     rw [HR.out,all0_le x (k:=k+1) (m:=8) (by omega) (by rw [HT.out];simpa using h0)];rfl)
    have hw5:=nx HB.out hb5
    clear h0
    go_wp2
    go_ret
    exact ⟨ret_bool HF.out.symm,hw5⟩
  ·obtain rfl:k=8:=by omega
   have HF:Hid (R=true):=lH (by rw [HR.out,HL.out];rfl)
   go_wp2
   go_ret
   exact ⟨ret_bool HF.out.symm,hwf⟩
theorem sound_is {n:Nat} {x:Xc} {v:Value} {w:World} {r:Bool} (H:Hid (soundX x=r)) (h:XV n x v w) (hn:n≤w.heap.size) (hs:SmX x) :
  Calls Tryz.prog 34 #[v] w fun e w'=>e=.returned (.bool r)∧Below w.heap.size w w':=by
 rw [← H.out];exact sound_any n x v w h hn hs
def cntO (c:Int) (l:List Od):Nat:=(l.filter fun o=>o.2.1==c).length
theorem cntO_take {c:Int} {l:List Od} {k:Nat} (h:k<l.length):cntO c (l.take (k+1))=cntO c (l.take k)+if l[k].2.1==c then 1 else 0:=by
 unfold cntO;rw [Da.take_snoc h,List.filter_append,List.length_append]
 congr 1
 by_cases e:(l[k].2.1==c)=true
 ·rw [if_pos e,List.filter_cons,if_pos e];rfl
 ·rw [if_neg e,List.filter_cons,if_neg e];rfl
theorem cntO_le (c:Int) (l:List Od):cntO c l≤l.length:=List.length_filter_le _ _
theorem cntO_app (c:Int) (l m:List Od):cntO c (l++m)=cntO c l+cntO c m:=by unfold cntO;rw [List.filter_append,List.length_append]
theorem countOf_any (B:Bs) (l:List Lv) (v:Value) (c:Int) (w:World) (h:LL B l v w) (hB:B.le w.heap.size) (hm:l.length≤1000) (hf:(flat l).length≤1000) :
  Calls Tryz.prog 71 #[v,.int .i64 c] w fun e w'=>e=.returned (.int .i64 (cntO c (flat l):Nat))∧Below w.heap.size w w':=by
 have HO:=lH (ordsO_any B l v w h hB (by omega) (by omega))
 obtain ⟨a0,c0,rfl⟩:=h.len
 have HB:=lH (show ∀ u,Below w.heap.size w u→B.le u.heap.size from fun u hu=>hB.mono hu.size)
 obtain ⟨os,hos⟩:∃ os,flat l=os:=⟨_,rfl⟩
 rw [hos] at hf ⊢
 obtain ⟨N,hN⟩:∃ N,os.length=N:=⟨_,rfl⟩
 rw [hN] at hf
 obtain ⟨R,hR⟩:∃ R,cntO c os=R:=⟨_,rfl⟩
 rw [hR]
 rw [hos] at HO
 have HN:=lH hN
 have HR:=lH hR
 clear h hB hos hN hR
 go_enter Tryz.func71,Tryz.ntmps71
 go_wp2_with fail
 refine HO.out.mono ?_
 rintro e w1 ⟨v1,rfl,hb1,ho⟩
 have hi:=ho.is (by decide) (HB.out w (Below.refl _ _))
 obtain ⟨a1,c1,rfl,hel⟩:=id hi
 rw [HN.out]
 have HE:=lH hel
 have HB1:=lH hb1
 clear ho hi hel hb1
 go_wp2
 go_loopw [5,11] (fun t i wr=>∃ k:Nat,k≤N∧i=.int .i64 k∧t=.int .i64 (cntO c (os.take k):Nat)∧Below w1.heap.size w1 wr) (fun _ i _=>N - (intOf i).toNat)
 case atStart=>exact ⟨0,Nat.zero_le _,rfl,rfl,Below.refl _ _⟩
 case round =>
  obtain ⟨k,hk,rfl,rfl,hb⟩:=hrel
  have hle:=Nat.le_trans (cntO_le c (os.take k)) (List.length_take_le k os)
  obtain ⟨m,hm'⟩:∃ m,cntO c (os.take k)=m:=⟨_,rfl⟩
  rw [hm'] at hle ⊢
  have HM:=lH hm'
  clear hm'
  have hbw:=nx HB1.out hb
  by_cases hlt:k<N
  ·have hlt2:(k:Int)<N:=by omega
   have hkl:k<os.length:=by rw [HN.out];exact hlt
   rcases HE.out with ⟨e,_⟩ | ⟨g,off,rfl,hat⟩
   ·rw [e] at hkl;cases hkl
   have hat2:=Lies.keep eO 74 hat (Keeps.of_below hb)
   obtain ⟨s0,s1,s2,s3,s4⟩:=at5 hat2 k hkl
   have hbb:=hat2.1
   have hst:=cntO_take (c:=c) hkl
   rw [HM.out] at hst
   obtain ⟨⟨x1,x2,x3,x4,x5⟩,hx⟩:∃ x,os[k]'hkl=x:=⟨_,rfl⟩
   rw [hx] at s0 s1 s2 s3 s4 hst
   simp only at s0 s1 s2 s3 s4 hst
   have HSt:=lH hst
   have hb2:=nx hbw (below1 wr (.cells #[.int .i64 x1,.int .i64 x2,.int .i64 x3,.int .i64 x4,.int .i64 x5] 74))
   have hb3:=nx hb (below1 wr (.cells #[.int .i64 x1,.int .i64 x2,.int .i64 x3,.int .i64 x4,.int .i64 x5] 74))
   clear hst hx hat hat2
   cases hd:(x2==c)
   ·have HS1:Hid (cntO c (os.take (k+1))=m):=lH (by rw [HSt.out,hd];rfl)
    go_wp2
    go_roundw
    case rel=>exact ⟨k+1,by omega,by go_num,by rw [HS1.out],hb3⟩
    case measure=>simp [intOf];omega
   ·have HS1:Hid (cntO c (os.take (k+1))=m+1):=lH (by rw [HSt.out,hd];rfl)
    go_wp2
    go_roundw
    case rel=>exact ⟨k+1,by omega,by go_num,by rw [HS1.out];go_num,hb3⟩
    case measure=>simp [intOf];omega
  ·obtain rfl:k=N:=by omega
   have HF:=lH (show (m:Int)=R from by rw [← HR.out,← HM.out,← HN.out,List.take_length])
   go_wp2
   go_ret
   exact ⟨ret_int HF.out,hbw⟩
theorem countOf_is {B:Bs} {l:List Lv} {v:Value} {c:Int} {w:World} {t:Nat} (H:Hid (cntO c (flat l)=t)) (h:LL B l v w) (hB:B.le w.heap.size) (hm:l.length≤1000) (hf:(flat l).length≤1000) :
  Calls Tryz.prog 71 #[v,.int .i64 c] w fun e w'=>e=.returned (.int .i64 (t:Nat))∧Below w.heap.size w w':=by
 rw [← H.out];exact countOf_any B l v c w h hB hm hf
end Go.Proofs.YtjhocpcpkemcaaaGreat.Au
namespace Go.Proofs.YtjhocpcpkemcaaaGreat.Au
open Go.RowKit
open Rw
open Da
open Le (LL OL eL eO Lv Od flat)
open La (Ln LN LB cN Sm)
open Ac (Hd Pu HL ofL)
open Ex
def usesO (c:Int):List Ln→Nat
 | []=>0
 | l :: r=>(cntO c (flat l.2.2.1.1)+cntO c (flat l.2.2.1.2.1))+usesO c r
def usesH (c:Int):List Ln→Nat
 | []=>0
 | l :: r=>(ofL l.2.2.2 c).length+usesH c r
theorem usesO_app (c:Int) (l m:List Ln):usesO c (l++m)=usesO c l+usesO c m:=by
 induction l with
 | nil=>simp [usesO]
 | cons h r ih=>rw [List.cons_append,usesO,usesO,ih];omega
theorem usesH_app (c:Int) (l m:List Ln):usesH c (l++m)=usesH c l+usesH c m:=by
 induction l with
 | nil=>simp [usesH]
 | cons h r ih=>rw [List.cons_append,usesH,usesH,ih];omega
theorem uses_take {c:Int} {L:List Ln} {k:Nat} (h:k<L.length):usesO c (L.take (k+1))=usesO c (L.take k)+(cntO c (flat L[k].2.2.1.1)+cntO c (flat L[k].2.2.1.2.1))∧usesH c (L.take (k+1))=usesH c (L.take k)+(ofL L[k].2.2.2 c).length:=by
 rw [Da.take_snoc h,usesO_app,usesH_app,usesO,usesH,usesO,usesH];exact ⟨rfl,rfl⟩
theorem wrap_sum {a b c:Nat} (h:a+b+c≤10000000):IntKind.i64.wrap ((a:Int)+IntKind.i64.wrap ((b:Int)+c))=((a+(b+c):Nat):Int):=by
 rw [IntKind.wrap_i64,IntKind.wrap_i64];omega
theorem ofL_le (l:List Hd) (c:Int):(ofL l c).length≤l.length:=List.length_filter_le _ _
theorem uses_bd {c:Int}:∀ {L:List Ln},(∀ l∈L,Sm l)→usesO c L≤L.length*2000∧usesH c L≤L.length*1000
 | [],_=>by simp [usesO,usesH]
 | l :: r,h=>by
  have i:=uses_bd (c:=c) (L:=r) fun x hx=>h x (List.mem_cons_of_mem _ hx)
  have s:=h l List.mem_cons_self
  have h1:=Nat.le_trans (cntO_le c (flat l.2.2.1.1)) s.m2
  have h2:=Nat.le_trans (cntO_le c (flat l.2.2.1.2.1)) s.m4
  have h3:=Nat.le_trans (ofL_le l.2.2.2 c) s.m5
  rw [usesO,usesH,List.length_cons];omega
theorem of_is {lo:Nat} {l:List Hd} {v:Value} {c:Int} {w:World} {m:Nat} (H:Hid ((ofL l c).length=m)) (h:HL lo l v w) (hm:l.length≤1000) :
  Calls Tryz.prog 72 #[v,.int .i64 c] w fun e w'=>∃ a k,e=.returned (.slice a m k)∧Below w.heap.size w w':=by
 refine (Ac.of_any l v c w h (by omega)).mono ?_
 rintro e w' ⟨v,rfl,hb,ho⟩
 obtain ⟨a,k,rfl⟩:=La.hl_slice ho
 exact ⟨a,k,by rw [H.out],hb⟩
theorem uses_any (n:Nat) (x:Xc) (v:Value) (c:Int) (w:World) (h:XV n x v w) (hn:n≤w.heap.size) (hs:SmX x) :
  Calls Tryz.prog 30 #[v,.int .i64 c] w fun e w'=>e=.returned (.tuple #[.int .i64 (usesO c x.lanes:Nat),.int .i64 (usesH c x.lanes:Nat)])∧Below w.heap.size w w':=by
 obtain ⟨_,_,_,_,_,rfl,hd⟩:=h
 obtain ⟨a1,d1,a2,d2,a3,d3,a4,d4,a5,d5,rfl,rfl,rfl,rfl,rfl⟩:=hd.open'
 obtain ⟨n1,q1⟩:∃ q,x.free.length=q:=⟨_,rfl⟩
 obtain ⟨N,q2⟩:∃ q,x.lanes.length=q:=⟨_,rfl⟩
 obtain ⟨n3,q3⟩:∃ q,x.sess.length=q:=⟨_,rfl⟩
 obtain ⟨n4,q4⟩:∃ q,x.inn.length=q:=⟨_,rfl⟩
 obtain ⟨n5,q5⟩:∃ q,x.out.length=q:=⟨_,rfl⟩
 have hNs:=hd.lanes
 rw [q1,q2,q3,q4,q5] at hd ⊢
 rw [q2] at hNs
 have hm:N≤1000:=by rw [← q2];exact hs.lanes
 obtain ⟨L,hL⟩:∃ L,x.lanes=L:=⟨_,rfl⟩
 have hsl:=hs.lane
 rw [hL] at hNs q2 hsl ⊢
 obtain ⟨R1,hR1⟩:∃ R,usesO c L=R:=⟨_,rfl⟩
 obtain ⟨R2,hR2⟩:∃ R,usesH c L=R:=⟨_,rfl⟩
 rw [hR1,hR2]
 have HR:=lH (And.intro hR1 hR2)
 have HN:=lH q2
 have HS:=lH hsl
 obtain ⟨_,_,e2,h1⟩:=hNs
 simp only [Value.slice.injEq] at e2
 obtain ⟨rfl,-,rfl⟩:=e2
 have HA:=lH h1
 have hx0:=XB.made hd hn
 obtain ⟨r0,r1,r2,r3,r4⟩:=hx0.cells
 have HB0:=lH (below1 w (.cells #[.slice a1 n1 d1,.slice a2 N d2,.slice a3 n3 d3,.slice a4 n4 d4,.slice a5 n5 d5] 28))
 have Hn:=lH hn
 clear hd hs hL q1 q2 q3 q4 q5 hR1 hR2 hsl h1 hx0 hn
 go_enter Tryz.func30,Tryz.ntmps30
 go_wp2
 clear r0 r1 r2 r3 r4
 go_loopw [6,7,13] (fun s t i wr=>∃ k:Nat,k≤N∧i=.int .i64 k∧s=.int .i64 (usesO c (L.take k):Nat)∧t=.int .i64 (usesH c (L.take k):Nat)∧Below w.heap.size w wr) (fun _ _ i _=>N - (intOf i).toNat)
 case atStart=>exact ⟨0,Nat.zero_le _,rfl,rfl,rfl,HB0.out⟩
 case round =>
  obtain ⟨k,hk,rfl,rfl,rfl,hb⟩:=hrel
  have hbd:=uses_bd (c:=c) (L:=L.take k) fun l hl=>HS.out l (List.mem_of_mem_take hl)
  have hln0:=List.length_take_le k L
  obtain ⟨u1,hu1⟩:∃ q,usesO c (L.take k)=q:=⟨_,rfl⟩
  obtain ⟨u2,hu2⟩:∃ q,usesH c (L.take k)=q:=⟨_,rfl⟩
  rw [hu1,hu2] at hbd ⊢
  have HK:=lH (And.intro hu1 hu2)
  have hbd1:u1≤2000000:=by omega
  have hbd2:u2≤1000000:=by omega
  clear hu1 hu2 hbd hln0
  by_cases hlt:k<N
  ·have hlt2:(k:Int)<N:=by omega
   have hkl:k<L.length:=by rw [HN.out];exact hlt
   rcases HA.out with ⟨e,_⟩ | ⟨b,off,rfl,hat⟩
   ·rw [e] at hkl;cases hkl
   have hat2:=Lies.keep eN 59 hat (Keeps.of_below hb)
   have hbb:=hat2.1
   obtain ⟨j1,w1,x1,j2,w2,x2,j3,w3,x3,hln,r0,r1,r2,r3,r4,r5⟩:=atN hat2 k hkl
   have hsl:=HS.out _ (List.getElem_mem hkl)
   have hT:=uses_take (c:=c) hkl
   obtain ⟨⟨lb,lq,⟨bu,se,nn⟩,od⟩,hlnq⟩:∃ ln,L[k]=ln:=⟨_,rfl⟩
   rw [hlnq] at hln r0 r1 r4 hsl hT
   simp only at hln r0 r1 r4 hT
   have c1:=Nat.le_trans (cntO_le c (flat bu)) hsl.m2
   have c2:=Nat.le_trans (cntO_le c (flat se)) hsl.m4
   have c3:=Nat.le_trans (ofL_le od c) hsl.m5
   obtain ⟨p,hp⟩:∃ p,cntO c (flat bu)=p:=⟨_,rfl⟩
   obtain ⟨q,hq⟩:∃ q,cntO c (flat se)=q:=⟨_,rfl⟩
   obtain ⟨m,hm3⟩:∃ m,(ofL od c).length=m:=⟨_,rfl⟩
   rw [hp,hq,hm3,HK.out.1,HK.out.2] at hT
   rw [hp] at c1
   rw [hq] at c2
   rw [hm3] at c3
   have HP:=lH hp
   have HQ:=lH hq
   have HM:=lH hm3
   obtain ⟨U,hU⟩:∃ V,V=wr.alloc (.cells #[.int .i64 lb,.int .i64 lq,.slice j1 w1 x1,.slice j2 w2 x2,.int .i64 nn,.slice j3 w3 x3] 59):=⟨_,rfl⟩
   have hbU:Below wr.heap.size wr U:=hU ▸ below1 wr _
   have hlb:=ln_lb hln (show n≤wr.heap.size from Nat.le_trans Hn.out hb.size)
   rw [← hU] at hlb
   have HLB:=lH hlb
   have HSl:=lH hsl
   have HBs:=lH (show ∀ u,Below U.heap.size U u→(Bs.of n).le u.heap.size from fun u hu=>⟨Nat.le_trans Hn.out (nx (nx hb hbU) hu).size,fun _ h=>h.elim⟩)
   have hF2:∀ u,Below U.heap.size U u→u.cell? ⟨wr.heap.size,2,none⟩=some (.slice j1 w1 x1)∧u.cell? ⟨wr.heap.size,3,none⟩=some (.slice j2 w2 x2):=fun u hu=>by
    obtain ⟨_,_,k2,k3,_,_⟩:=(HLB.out.stays hu).cells
    exact ⟨k2,k3⟩
   have HT:=lH hT
   have HU:=lH hU
   have HBU:=lH (nx hb hbU)
   clear hU hbU hln hlb hat hat2 hsl hlnq hT hp hq hm3
   go_wp2_with fail
   rw [← HU.out]
   clear r0 r1 r2 r3 r4 r5
   refine Rf.rg [0,1,2,3,4,5,6,7,8,9,10,11,12,13] ?_
   repeat (first | (refine Rf.Steps.sk ?_;simp only [Act.put,sA,sB,sC]) | (refine Rf.Steps.pu (v:=?_) ?_ ?_;rotate_left;(intro w_ hS_;have hk_:=hF2 w_ hS_;go_simp<;>with_reducible rfl);simp only [Act.put,sA,sB,sC]) | (refine Rf.Steps.ca (v:=?_) (f:=?_) (args:=?_) ?_ ?_ ?_;rotate_left 3;(intro w_ hS_;have hk_:=hF2 w_ hS_;go_simp<;>first | with_reducible rfl | (constructor<;>with_reducible rfl));(intro w_ hS_;have hk_:=hF2 w_ hS_;first | (go_at_call 71;(first | with_reducible refine (countOf_is HP (HLB.out.stays hS_).l1 (HBs.out w_ hS_) HSl.out.m1 HSl.out.m2).mono ?_ | with_reducible refine (countOf_is HQ (HLB.out.stays hS_).l2 (HBs.out w_ hS_) HSl.out.m3 HSl.out.m4).mono ?_);first | (rintro e w_ ⟨rfl,rfl⟩;refine ⟨?_,Below.refl _ _⟩;with_reducible rfl) | (rintro e w_ ⟨rfl,hb_⟩;refine ⟨?_,hb_⟩;with_reducible rfl)));simp only [Act.put,sA,sB,sC]))
   refine Rf.Steps.nil (by kernel_rfl) ?_
   intro w4 hb4
   have k5:=((HLB.out.stays hb4).cells).2.2.2.2.2
   have hl4:=(HLB.out.stays hb4).lt
   clear hF2
   go_wp2_with fail
   refine (of_is HM (HLB.out.stays hb4).l3 HSl.out.m5).mono ?_
   rintro e w5 ⟨a9,c9,rfl,hb5⟩
   have hbf:=nx HBU.out (nx hb4 hb5)
   clear k5 hl4 hb4 hb5
   go_wp2
   go_roundw
   case rel=>exact ⟨k+1,by omega,by go_num,by rw [HT.out.1,wrap_sum (by omega)],by rw [HT.out.2];go_num,hbf⟩
   case measure=>simp [intOf];omega
  ·obtain rfl:k=N:=by omega
   have HF1:=lH (show u1=R1 from by rw [← HR.out.1,← HK.out.1,← HN.out,List.take_length])
   have HF2:=lH (show u2=R2 from by rw [← HR.out.2,← HK.out.2,← HN.out,List.take_length])
   go_wp2
   go_ret2
   exact ⟨by rw [HF1.out,HF2.out];rfl,hb⟩
theorem uses_is {n:Nat} {x:Xc} {v:Value} {c:Int} {w:World} {p q:Nat} (H:Hid (usesO c x.lanes=p∧usesH c x.lanes=q)) (h:XV n x v w) (hn:n≤w.heap.size) (hs:SmX x) :
  Calls Tryz.prog 30 #[v,.int .i64 c] w fun e w'=>e=.returned (.tuple #[.int .i64 (p:Nat),.int .i64 (q:Nat)])∧Below w.heap.size w w':=by
 rw [← H.out.1,← H.out.2];exact uses_any n x v c w h hn hs
end Go.Proofs.YtjhocpcpkemcaaaGreat.Au
