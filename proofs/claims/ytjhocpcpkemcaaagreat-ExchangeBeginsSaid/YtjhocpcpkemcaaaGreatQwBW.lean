/- Plain mathematics of layer 12: what a command leaves as it was, and what its answer hangs on; right ones stay right; once; either order. -/
import Derived.Test.YtjhocpcpkemcaaaGreatQwZZ
import Derived.Test.YtjhocpcpkemcaaaGreatQwAV
import Derived.Test.YtjhocpcpkemcaaaGreatQwAU
import Derived.Test.YtjhocpcpkemcaaaGreatQwBI
import Derived.Test.YtjhocpcpkemcaaaGreatQwBT
import Derived.Test.YtjhocpcpkemcaaaGreatQwBV
set_option linter.unusedVariables false
set_option maxRecDepth 16000
set_option maxHeartbeats 32000000
namespace Go.Proofs.YtjhocpcpkemcaaaGreat.Ex
open Bk (Bk Fl sumQ bestP)
open La (Ln placeN cancelN collectN RightN rightN rightN_iff stl)
open Ac (Hd Pu pmay pmay_iff giveE giveL takeE takeL)
open Se (Rp Sn z5 fnd noteE noteL mk okS okS_iff)
open Cm (chkE chkB laneB meetB zeroB limB)
theorem give_right {l : List Hd} {p : Pu} {n : Int} (h : Ac.Right l) : Ac.Right (giveL l p n):=by
 by_cases e : giveE l p n=0
 ·exact (Ac.give_done e).1
 ·rw [Ac.give_none e];exact h
theorem give_get {l : List Hd} {p : Pu} {n : Int} (q : Pu) : Ac.get (giveL l p n) q=if giveE l p n=0∧q=p then Ac.get l p+n else Ac.get l q:=by
 by_cases e : giveE l p n=0
 ·rw [(Ac.give_done e).2.1]
  by_cases k : q=p
  ·rw [if_pos k,if_pos ⟨e,k⟩]
  ·rw [if_neg k,if_neg (fun h=>k h.2)]
 ·rw [Ac.give_none e,if_neg (fun h=>e h.1)]
theorem take_all {l : List Hd} {p : Pu} {n : Int} (h : Ac.Right l) : Ac.Right (takeL l p n)∧∀ q,Ac.get (takeL l p n) q=if takeE l p n=0∧q=p then Ac.get l p - n else Ac.get l q:=by
 by_cases e : takeE l p n=0
 ·obtain ⟨a,b,_⟩:=Ac.take_done h (La.take_ok e).2.1 e
  refine ⟨a,fun q=>?_⟩
  rw [b]
  by_cases k : q=p
  ·rw [if_pos k,if_pos ⟨e,k⟩]
  ·rw [if_neg k,if_neg (fun h=>k h.2)]
 ·rw [Ac.take_none e]
  exact ⟨h,fun q=>by rw [if_neg (fun h=>e h.1)]⟩
def onL (c : Nat→Int) : Option Nat:=if laneB (c 2)=true then some (c 3).toNat else none
structure ExecK (x : Xc) (a : Int) (i : Option Nat) (R : Xc × Int × Int × Int) : Prop where
 right : RightX R.1
 sess : R.1.sess=x.sess
 free : ∀ u : Pu,u.1≠a→Ac.get R.1.free u=Ac.get x.free u
 inn : ∀ u : Pu,u.1≠a→Ac.get R.1.inn u=Ac.get x.inn u
 out : ∀ u : Pu,u.1≠a→Ac.get R.1.out u=Ac.get x.out u
 len : R.1.lanes.length=x.lanes.length
 lanes : ∀ j,i≠some j→R.1.lanes[j]?=x.lanes[j]?
 err : R.2.1≠0→R=(x,R.2.1,0,0)
 code : R.2.1≠13
theorem ExecK.same {x : Xc} (h : RightX x) (a : Int) (i : Option Nat) {k A B : Int} (hk : k≠13) (he : k≠0→A=0∧B=0) : ExecK x a i (x,k,A,B) :=
 ⟨h,rfl,fun _ _=>rfl,fun _ _=>rfl,fun _ _=>rfl,rfl,fun _ _=>rfl,fun e=>by obtain ⟨rfl,rfl⟩:=he e;rfl,hk⟩
theorem execP_keep {x : Xc} (h : RightX x) (c : Nat→Int) (i : Option Nat) : ExecK x (c 0) i (execP x c):=by
 unfold execP
 by_cases h1 : c 2≠7∧c 8=0
 ·rw [if_pos h1];exact ExecK.same h _ _ (by decide) fun _=>⟨rfl,rfl⟩
 rw [if_neg h1]
 have hne : ∀ u : Pu,u.1≠c 0→u≠(c 0,c 4):=fun u hu e=>hu (by rw [e])
 by_cases h2 : c 2=1
 ·rw [if_pos h2]
  by_cases h3 : giveE x.inn (c 0,c 4) (c 8)=0
  ·rw [if_pos h3]
   by_cases h4 : giveE x.free (c 0,c 4) (c 8)=0
   ·rw [if_pos h4]
    exact ⟨⟨h.few,h.lane,give_right h.free,give_right h.inn,h.out,h.sess⟩,rfl,fun u hu=>by show Ac.get (giveL _ _ _) u=_;rw [give_get,if_neg (fun k=>hne u hu k.2)],fun u hu=>by show Ac.get (giveL _ _ _) u=_;rw [give_get,if_neg (fun k=>hne u hu k.2)],fun _ _=>rfl,rfl,fun _ _=>rfl,fun k=>absurd rfl k,by show (0 : Int)≠13;decide⟩
   ·rw [if_neg h4];exact ExecK.same h _ _ (give_code _ _ _) fun _=>⟨rfl,rfl⟩
  ·rw [if_neg h3];exact ExecK.same h _ _ (give_code _ _ _) fun _=>⟨rfl,rfl⟩
 rw [if_neg h2]
 by_cases h5 : c 2=2
 ·rw [if_pos h5]
  by_cases h3 : takeE x.free (c 0,c 4) (c 8)=0
  ·rw [if_pos h3]
   by_cases h4 : giveE x.out (c 0,c 4) (c 8)=0
   ·rw [if_pos h4]
    exact ⟨⟨h.few,h.lane,(take_all h.free).1,h.inn,give_right h.out,h.sess⟩,rfl,fun u hu=>by show Ac.get (takeL _ _ _) u=_;rw [(take_all h.free).2,if_neg (fun k=>hne u hu k.2)],fun _ _=>rfl,fun u hu=>by show Ac.get (giveL _ _ _) u=_;rw [give_get,if_neg (fun k=>hne u hu k.2)],rfl,fun _ _=>rfl,fun k=>absurd rfl k,by show (0 : Int)≠13;decide⟩
   ·rw [if_neg h4];exact ExecK.same h _ _ (give_code _ _ _) fun _=>⟨rfl,rfl⟩
  ·rw [if_neg h3];exact ExecK.same h _ _ (take_code _ _ _) fun _=>⟨rfl,rfl⟩
 ·rw [if_neg h5];exact ExecK.same h _ _ (by decide) fun k=>absurd rfl k
theorem set_self {α : Type} {l : List α} {i : Nat} {x : α} (h : l[i]?=some x) : l.set i x=l:=by
 obtain ⟨hi,rfl⟩:=List.getElem?_eq_some_iff.1 h
 exact List.set_getElem_self hi
theorem execL_keep {x : Xc} (h : RightX x) (c : Nat→Int) : ExecK x (c 0) (some (c 3).toNat) (execL x c):=by
 unfold execL
 cases hl : x.lanes[(c 3).toNat]? with
 | none=>exact ExecK.same h _ _ (by decide) fun _=>⟨rfl,rfl⟩
 | some l =>
  have hm:=List.mem_of_getElem? hl
  have k:=act_keep (h.lane l hm) h.free c
  refine ⟨⟨by show (x.lanes.set _ _).length≤6;rw [List.length_set];exact h.few,fun m hm2=>?_,k.keep.free,h.inn,h.out,h.sess⟩,rfl,k.keep.others,fun _ _=>rfl,fun _ _=>rfl,List.length_set,fun j hj=>?_,fun he=>?_,k.code⟩
  ·rcases List.mem_or_eq_of_mem_set hm2 with h1 | rfl
   ·exact h.lane m h1
   ·exact k.keep.right
  ·show (x.lanes.set _ _)[j]?=_
   rw [List.getElem?_set_ne (fun e=>hj (by rw [e]))]
  ·have e:=k.err he
   show (({ x with lanes:=x.lanes.set (c 3).toNat (act l x.free c).1,free:=(act l x.free c).2.1 } : Xc),(act l x.free c).2.2)=(x,(act l x.free c).2.2.1,0,0)
   generalize act l x.free c=R at e ⊢
   obtain ⟨l',f',k1,k2,k3⟩:=R
   simp only [Prod.mk.injEq] at e
   obtain ⟨rfl,rfl,-,rfl,rfl⟩:=e
   simp only
   rw [set_self hl]
theorem exec_keep {x : Xc} (h : RightX x) (c : Nat→Int) : ExecK x (c 0) (onL c) (exec x c):=by
 unfold exec onL
 by_cases e : laneB (c 2)=true
 ·rw [if_pos e,if_pos e];exact execL_keep h c
 ·rw [if_neg e,if_neg e];exact execP_keep h c none
end Go.Proofs.YtjhocpcpkemcaaaGreat.Ex
namespace Go.Proofs.YtjhocpcpkemcaaaGreat.Ex
open Bk (Bk Fl sumQ bestP)
open La (Ln RightN)
open Ac (Hd Pu)
open Se (Rp Sn z5 fnd noteE noteL mk okS okS_iff)
open Cm (chkE chkB laneB meetB zeroB limB)
theorem look_at {a q : Int} (l : List Sn) (hq : 1≤q) : (∃ s,fnd a l=some s∧s.2.1=q∧Se.look a q l=(s.2.2,0))∨(∃ s,fnd a l=some s∧q<s.2.1∧Se.look a q l=(z5,13))∨(Se.last a l<q∧Se.look a q l=(z5,8)):=by
 unfold Se.look Se.last
 cases h : fnd a l with
 | none=>exact .inr (.inr ⟨by show (0 : Int)<q;omega,rfl⟩)
 | some s =>
  simp only
  by_cases h1 : s.2.1<q
  ·exact .inr (.inr ⟨h1,if_pos h1⟩)
  ·by_cases h2 : q<s.2.1
   ·exact .inr (.inl ⟨s,rfl,h2,by rw [if_neg h1,if_pos h2]⟩)
   ·exact .inl ⟨s,rfl,by omega,by rw [if_neg h1,if_neg h2]⟩
theorem apply_no {x : Xc} {c : Nat→Int} (h : ¬ chkE c=0) : apply x c=(x,rep c (1,0,0)):=by
 unfold apply;rw [if_neg (fun k=>h k.2)]
theorem apply_zero {x : Xc} {c : Nat→Int} (hx : RightX x) (h : chkE c=0) (h0 : c 2=0) : apply x c=(x,z5):=by
 unfold apply;rw [if_pos ⟨rightX_iff.2 hx,h⟩,if_pos h0]
theorem apply_cases {x : Xc} {c : Nat→Int} (hx : RightX x) (h : chkE c=0) (h0 : c 2≠0) :
  (∃ s,fnd (c 0) x.sess=some s∧s.2.1=c 1∧apply x c=(x,s.2.2))∨(∃ s,fnd (c 0) x.sess=some s∧c 1<s.2.1∧apply x c=(x,rep c (13,0,0)))
 ∨(Se.last (c 0) x.sess<c 1∧okS (mk (rep c (exec x c).2))=true∧apply x c=({ (exec x c).1 with sess:=Se.put (mk (rep c (exec x c).2)) x.sess },rep c (exec x c).2)):=by
 have hc:=chk_ok h h0
 unfold apply
 rw [if_pos ⟨rightX_iff.2 hx,h⟩,if_neg h0]
 rcases look_at x.sess hc.2.2.1.1 (a:=c 0) with ⟨s,h1,h2,h3⟩ | ⟨s,h1,h2,h3⟩ | ⟨h1,h3⟩
 ·rw [h3];exact .inl ⟨s,h1,h2,rfl⟩
 ·rw [h3];exact .inr (.inl ⟨s,h1,h2,rfl⟩)
 ·rw [h3,if_neg (by decide),if_neg (by decide)]
  have ho : okS (mk (rep c (exec x c).2))=true:=okS_iff.2 ⟨hc.2.1.1,by show c 0<64;omega,hc.2.2.1.1,hc.2.2.1.2,rfl,rfl⟩
  refine .inr (.inr ⟨h1,ho,?_⟩)
  have hs:=(exec_keep hx c).sess
  have hn : noteL (exec x c).1.sess (rep c (exec x c).2)=Se.put (mk (rep c (exec x c).2)) x.sess:=by
   unfold noteL
   have he : noteE (exec x c).1.sess (rep c (exec x c).2)=0:=by
    unfold noteE
    rw [hs,Se.right_iff.2 hx.sess,ho,if_pos (by rfl),if_neg (by show ¬ c 1≤Se.last (c 0) x.sess;omega)]
   rw [if_pos he,hs]
  rw [hn]
structure ApplyK (x : Xc) (c : Nat→Int) (R : Xc × Rp) : Prop where
 right : RightX R.1
 free : ∀ u : Pu,u.1≠c 0→Ac.get R.1.free u=Ac.get x.free u
 inn : ∀ u : Pu,u.1≠c 0→Ac.get R.1.inn u=Ac.get x.inn u
 out : ∀ u : Pu,u.1≠c 0→Ac.get R.1.out u=Ac.get x.out u
 sess : ∀ a,a≠c 0→fnd a R.1.sess=fnd a x.sess
 len : R.1.lanes.length=x.lanes.length
 lanes : ∀ j : Nat,¬ (chkE c=0∧laneB (c 2)=true∧c 3=j)→R.1.lanes[j]?=x.lanes[j]?
 err : R.2.2.2.1≠0→∃ s,R.1={ x with sess:=s }
theorem ApplyK.same {x : Xc} (h : RightX x) (c : Nat→Int) (r : Rp) : ApplyK x c (x,r):=⟨h,fun _ _=>rfl,fun _ _=>rfl,fun _ _=>rfl,fun _ _=>rfl,rfl,fun _ _=>rfl,fun _=>⟨x.sess,rfl⟩⟩
theorem apply_keep {x : Xc} (h : RightX x) (c : Nat→Int) : ApplyK x c (apply x c):=by
 by_cases hc : chkE c=0
 ·by_cases h0 : c 2=0
  ·rw [apply_zero h hc h0];exact ApplyK.same h _ _
  ·have hcc:=chk_ok hc h0
   rcases apply_cases h hc h0 with ⟨s,_,_,e⟩ | ⟨s,_,_,e⟩ | ⟨h1,ho,e⟩
   ·rw [e];exact ApplyK.same h _ _
   ·rw [e];exact ApplyK.same h _ _
   ·rw [e]
    have k:=exec_keep h c
    refine ⟨⟨k.right.few,k.right.lane,k.right.free,k.right.inn,k.right.out,Se.right_put ho h.sess⟩,k.free,k.inn,k.out,fun a ha=>?_,k.len,fun j hj=>k.lanes j fun e2=>hj ⟨hc,?_⟩,fun he=>?_⟩
    ·show fnd a (Se.put _ _)=_
     rw [Se.fnd_put a h.sess,if_neg (show ¬ (mk (rep c (exec x c).2)).1=a from fun e2 : c 0=a=>ha e2.symm)]
    ·unfold onL at e2
     by_cases kl : laneB (c 2)=true
     ·rw [if_pos kl] at e2
      have:=Option.some.inj e2
      exact ⟨kl,by omega⟩
     ·rw [if_neg kl] at e2;cases e2
    ·have e3:=k.err he
     refine ⟨Se.put (mk (rep c (exec x c).2)) x.sess,?_⟩
     show ({ (exec x c).1 with sess:=Se.put (mk (rep c (exec x c).2)) x.sess } : Xc)=_
     rw [show (exec x c).1=x from by rw [e3]]
 ·rw [apply_no hc];exact ApplyK.same h _ _
def NoNum (r : Rp) : Prop:=r.2.2.1≠0→r.2.2.2.1=0∧r.2.2.2.2=0
def Quiet (x : Xc) : Prop:=∀ s∈x.sess,NoNum s.2.2
theorem apply_again {y : Xc} (h : RightX y) {c : Nat→Int} (hc : chkE c=0) (h0 : c 2≠0) {s : Sn} (h1 : fnd (c 0) y.sess=some s) (h2 : s.2.1=c 1) : apply y c=(y,s.2.2):=by
 rcases apply_cases h hc h0 with ⟨t,k1,k2,e⟩ | ⟨t,k1,k2,e⟩ | ⟨k1,ho,e⟩
 ·rw [h1] at k1;obtain rfl:=Option.some.inj k1;exact e
 ·rw [h1] at k1;obtain rfl:=Option.some.inj k1;omega
 ·unfold Se.last at k1;rw [h1] at k1;simp only at k1;omega
end Go.Proofs.YtjhocpcpkemcaaaGreat.Ex
namespace Go.Proofs.YtjhocpcpkemcaaaGreat.La
open Le
open Bk
open Ac (Hd Pu pmay pmay_iff tot total giveE giveL takeE takeL)
def placeC (l : Ln) (fr : List Hd) (ow s p q : Int) (rest : Bool) : PN :=
 let C:=plRes l.2.2.1 ow s p rest (tr ow s p (flat (oth l.2.2.1 s)) q)
 if C.2.2.2.2=0 then
  let S:=stl l.1 l.2.1 s C.2.1 l.2.2.2 0 0
  if S.2.2.2=0 then fin l fr ow s p C S else (l,fr,[],0,S.2.2.2)
 else (l,fr,[],0,C.2.2.2.2)
theorem placeN_eval {l : Ln} {fr : List Hd} {ow s p q : Int} {rest : Bool} (h : RightN l) (hf : Ac.Right fr) (ha : argOk ow s p q=true) : placeN l fr ow s p q rest=placeC l fr ow s p q rest:=by
 unfold placeN placeC
 rw [rightN_iff.2 h,Ac.right_iff.2 hf,if_pos (by rfl),place_tr h.book ha]
theorem give_right {l : List Hd} {p : Pu} {n : Int} (h : Ac.Right l) : Ac.Right (giveL l p n):=by
 by_cases e : giveE l p n=0
 ·exact (Ac.give_done e).1
 ·rw [Ac.give_none e];exact h
theorem right_newN {b q : Int} (h : pairOk b q=true) : RightN (newN b q):=by
 unfold newN
 rw [if_pos h]
 exact ⟨h,Bk.right_new,Ac.Right.nil,rfl⟩
abbrev Op5:=Int × Int × Int × Int × Int
end Go.Proofs.YtjhocpcpkemcaaaGreat.La
namespace Go.Proofs.YtjhocpcpkemcaaaGreat.Ex
open Go.RowKit
open Bk (Bk Fl sumQ bestP argOk)
open La (Ln placeN cancelN collectN RightN rightN rightN_iff newN newE pairOk)
open Ac (Hd Pu giveE giveL takeE takeL)
open Se (Rp Sn z5 fnd noteE noteL mk okS okS_iff)
open Cm (chkE laneB v9)
abbrev Cd:=Nat→Int
noncomputable def runX (x : Xc) (l : List Cd) : Xc:=l.foldl (fun y c=>(apply y c).1) x
noncomputable def runR (x : Xc) : List Cd→List Rp
 | []=>[]
 | c :: r=>(apply x c).2 :: runR (apply x c).1 r
theorem runX_cons (x : Xc) (c : Cd) (l : List Cd) : runX x (c :: l)=runX (apply x c).1 l:=rfl
theorem runX_snoc (x : Xc) (l : List Cd) (c : Cd) : runX x (l++[c])=(apply (runX x l) c).1:=by unfold runX;rw [List.foldl_append];rfl
theorem runR_snoc : ∀ (l : List Cd) (x : Xc) (c : Cd),runR x (l++[c])=runR x l++[(apply (runX x l) c).2]
 | [],_,_=>rfl
 | d :: r,x,c=>by rw [List.cons_append,runR,runR_snoc r,runX_cons];rfl
theorem runR_len : ∀ (l : List Cd) (x : Xc),(runR x l).length=l.length
 | [],_=>rfl
 | _ :: r,_=>by rw [runR,List.length_cons,runR_len r,List.length_cons]
theorem runX_take {x : Xc} {l : List Cd} {k : Nat} (h : k<l.length) : runX x (l.take (k+1))=(apply (runX x (l.take k)) l[k]).1:=by
 rw [List.take_succ_eq_append_getElem h,runX_snoc]
theorem runR_take {x : Xc} {l : List Cd} {k : Nat} (h : k<l.length) : runR x (l.take (k+1))=runR x (l.take k)++[(apply (runX x (l.take k)) l[k]).2]:=by
 rw [List.take_succ_eq_append_getElem h,runR_snoc]
abbrev x0 : Xc:=⟨[],[(1,0,([],[],1),[]),(2,0,([],[],1),[])],[],[],[]⟩
abbrev x1 : Xc:=⟨[(1,0,100)],[(1,0,([],[],1),[]),(2,0,([],[],1),[])],[(1,1,1,1,0,100,0)],[(1,0,100)],[]⟩
abbrev x2 : Xc:=⟨[(1,0,50)],[(1,0,([(10,[(1,1,1,10,5)])],[],2),[]),(2,0,([],[],1),[])],[(1,2,1,2,0,1,0)],[(1,0,100)],[]⟩
abbrev k1 : Cd:=v9 1 1 1 0 0 0 0 0 100
abbrev k2 : Cd:=v9 1 2 3 0 0 0 1 10 5
abbrev k3 : Cd:=v9 1 1 7 0 0 0 0 0 0
theorem r0 : RightX x0:=by
 refine ⟨by decide,?_,Ac.Right.nil,Ac.Right.nil,Ac.Right.nil,Se.Right.nil⟩
 intro l hl
 rcases List.mem_cons.1 hl with rfl | hl
 ·exact La.right_newN (b:=1) (q:=0) rfl
 ·obtain rfl:=List.mem_singleton.1 hl
  exact La.right_newN (b:=2) (q:=0) rfl
theorem q0 : Quiet x0:=fun _ h=>nomatch h
theorem apply_do {x : Xc} {c : Cd} (hx : RightX x) (h : chkE c=0) (h0 : c 2≠0) (hl : (Se.look (c 0) (c 1) x.sess).2=8) : apply x c=({ (exec x c).1 with sess:=noteL (exec x c).1.sess (rep c (exec x c).2) },rep c (exec x c).2):=by
 unfold apply
 rw [if_pos ⟨rightX_iff.2 hx,h⟩,if_neg h0,if_neg (by rw [hl];decide),if_neg (by rw [hl];decide)]
theorem a1 : apply x0 k1=(x1,(1,1,0,100,0)):=by
 rw [apply_do r0 (by kernel_rfl) (by decide) (by kernel_rfl)]
 have e : exec x0 k1=(⟨[(1,0,100)],[(1,0,([],[],1),[]),(2,0,([],[],1),[])],[],[(1,0,100)],[]⟩,0,100,0):=by
  show execP x0 k1=_
  kernel_rfl
 rw [e]
 have n : noteL [] (rep k1 (0,100,0))=[(1,1,1,1,0,100,0)]:=by kernel_rfl
 show (({ free:=[(1,0,100)],lanes:=[(1,0,([],[],1),[]),(2,0,([],[],1),[])],sess:=noteL [] (rep k1 (0,100,0)),inn:=[(1,0,100)],out:=[] } : Xc),rep k1 (0,100,0))=_
 rw [n];rfl
theorem r1 : RightX x1:=by have:=(apply_keep r0 k1).right;rw [a1] at this;exact this
theorem act2 : act (1,0,([],[],1),[]) [(1,0,100)] k2=((1,0,([(10,[(1,1,1,10,5)])],[],2),[]),[(1,0,50)],0,1,0):=by
 have e : placeN (1,0,([],[],1),[]) [(1,0,100)] 1 1 10 5 true=((1,0,([(10,[(1,1,1,10,5)])],[],2),[]),[(1,0,50)],[],1,0) :=
  (La.placeN_eval (r1.lane _ List.mem_cons_self) r1.free (by decide)).trans (by kernel_rfl)
 unfold act
 rw [if_pos (.inl rfl)]
 show ((placeN (1,0,([],[],1),[]) [(1,0,100)] 1 1 10 5 true).1,(placeN (1,0,([],[],1),[]) [(1,0,100)] 1 1 10 5 true).2.1,(placeN (1,0,([],[],1),[]) [(1,0,100)] 1 1 10 5 true).2.2.2.2,(placeN (1,0,([],[],1),[]) [(1,0,100)] 1 1 10 5 true).2.2.2.1,sumQ (placeN (1,0,([],[],1),[]) [(1,0,100)] 1 1 10 5 true).2.2.1)=_
 rw [e];rfl
theorem a2 : apply x1 k2=(x2,(1,2,0,1,0)):=by
 rw [apply_do r1 (by kernel_rfl) (by decide) (by kernel_rfl)]
 have e : exec x1 k2=(⟨[(1,0,50)],[(1,0,([(10,[(1,1,1,10,5)])],[],2),[]),(2,0,([],[],1),[])],[(1,1,1,1,0,100,0)],[(1,0,100)],[]⟩,0,1,0):=by
  show execL x1 k2=_
  have h : x1.lanes[(k2 3).toNat]?=some (1,0,([],[],1),[]):=rfl
  unfold execL
  rw [h]
  show ({ x1 with lanes:=x1.lanes.set 0 (act (1,0,([],[],1),[]) [(1,0,100)] k2).1,free:=(act (1,0,([],[],1),[]) [(1,0,100)] k2).2.1 },(act (1,0,([],[],1),[]) [(1,0,100)] k2).2.2)=((_,_) : Xc × _)
  rw [act2];rfl
 rw [e]
 have n : noteL [(1,1,1,1,0,100,0)] (rep k2 (0,1,0))=[(1,2,1,2,0,1,0)]:=by kernel_rfl
 show (({ free:=[(1,0,50)],lanes:=[(1,0,([(10,[(1,1,1,10,5)])],[],2),[]),(2,0,([],[],1),[])],sess:=noteL [(1,1,1,1,0,100,0)] (rep k2 (0,1,0)),inn:=[(1,0,100)],out:=[] } : Xc),rep k2 (0,1,0))=_
 rw [n];rfl
theorem r2 : RightX x2:=by have:=(apply_keep r1 k2).right;rw [a2] at this;exact this
theorem a3 : apply x2 k2=(x2,(1,2,0,1,0)):=apply_again r2 (by kernel_rfl) (by decide) (s:=(1,2,1,2,0,1,0)) rfl rfl
theorem a4 : apply x2 k3=(x2,(1,1,13,0,0)):=by
 unfold apply
 rw [if_pos ⟨rightX_iff.2 r2,by kernel_rfl⟩,if_neg (by decide),if_neg (by decide),if_pos (by kernel_rfl)]
 rfl
theorem awX : runX x0 [k1,k2,k2,k3]=x2:=by
 rw [runX_cons,a1,runX_cons,a2,runX_cons,a3,runX_cons,a4];rfl
theorem awR : runR x0 [k1,k2,k2,k3]=[(1,1,0,100,0),(1,2,0,1,0),(1,2,0,1,0),(1,1,13,0,0)]:=by
 rw [runR,a1,runR,a2,runR,a3,runR,a4];rfl
theorem awG : Ac.get x2.free (1,0)=50:=by kernel_rfl
theorem awT : rightX x2=true:=rightX_iff.2 r2
end Go.Proofs.YtjhocpcpkemcaaaGreat.Ex
namespace Go.Proofs.YtjhocpcpkemcaaaGreat.Ex
open Le (Lv flat flat_cons)
open La (Ln RightN)
open Bk (cntB)
open Se (Rp Sn okS_iff)
theorem lv_flat : ∀ {l : List Lv},(∀ v∈l,v.2≠[])→l.length≤(flat l).length
 | [],_=>Nat.zero_le _
 | v :: r,h=>by
  have h2:=lv_flat (l:=r) fun x hx=>h x (List.mem_cons_of_mem _ hx)
  have h3:=List.length_pos_iff.2 (h v List.mem_cons_self)
  rw [flat_cons,List.length_append,List.length_cons];omega
theorem smN {l : Ln} (h : RightN l) : La.Sm l:=by
 have hb:=h.book
 have hc:=hb.cnt
 unfold cntB at hc
 have h1 : l.2.2.1.1.length≤(flat l.2.2.1.1).length:=lv_flat fun v hv=>(hb.buys.2.1 v hv).1
 have h2 : l.2.2.1.2.1.length≤(flat l.2.2.1.2.1).length:=lv_flat fun v hv=>(hb.sells.2.1 v hv).1
 have h3:=Ac.right_512 h.owed
 exact ⟨by omega,by omega,by omega,by omega,by omega⟩
theorem sess_len : ∀ {l : List Sn} (m : Int),Se.Right l→(∀ s∈l,m≤s.1)→m≤64→(l.length : Int)≤64 - m
 | [],m,_,_,hm=>by simp;omega
 | s :: r,m,hr,hb,_=>by
  obtain ⟨a,b,c⟩:=Se.Right.cons.1 hr
  have g:=okS_iff.1 a
  have g1 : 0≤s.1∧s.1≤63:=by have:=g.1;omega
  have hm:=hb s List.mem_cons_self
  have:=sess_len (s.1+1) c (fun k hk=>by have:=b k hk;omega) (by omega)
  rw [List.length_cons];omega
theorem sess_64 {l : List Sn} (h : Se.Right l) : l.length≤64:=by
 have:=sess_len 0 h (fun s hs=>by have:=(okS_iff.1 (h.1 s hs)).1;omega) (by omega)
 omega
theorem smX_right {x : Xc} (h : RightX x) : SmX x :=
 ⟨Nat.le_trans (Ac.right_512 h.free) (by decide),Nat.le_trans h.few (by decide),Nat.le_trans (sess_64 h.sess) (by decide),Nat.le_trans (Ac.right_512 h.inn) (by decide),Nat.le_trans (Ac.right_512 h.out) (by decide),fun l hl=>smN (h.lane l hl)⟩
theorem apply_sm {x : Xc} (h : SmX x) (c : Nat→Int) : SmX (apply x c).1:=by
 by_cases hr : rightX x=true
 ·exact smX_right (apply_keep (rightX_iff.1 hr) c).right
 ·unfold apply;rw [if_neg (fun k=>hr k.1)];exact h
end Go.Proofs.YtjhocpcpkemcaaaGreat.Ex
namespace Go.Proofs.YtjhocpcpkemcaaaGreat.Ex
open Go.RowKit
open Rw
open Da
open Ro (Flat Row)
open Le (low_setCell keeps_setCell)
open Cm (fc fc_at v9)
open Se (Rp z5 cR)
def eC : Enc Cd:=Enc.flat 9 (fun c=>(fc c).toList) (fun c=>by simp [Cm.fc_size]) (fun c u hu=>by rw [Cm.fc_list] at hu;simp at hu;rcases hu with rfl | rfl | rfl | rfl | rfl | rfl | rfl | rfl | rfl<;>rfl)
abbrev CL (B : Bs) (l : List Cd) (v : Value) (w : World) : Prop:=Is eC 35 B l v w
def fR : Flat Rp:=⟨5,fun r=>[.int .i64 r.1,.int .i64 r.2.1,.int .i64 r.2.2.1,.int .i64 r.2.2.2.1,.int .i64 r.2.2.2.2],fun _=>rfl,fun r u hu=>by simp at hu;rcases hu with rfl | rfl | rfl | rfl | rfl<;>rfl⟩
abbrev eRp : Enc Rp:=fR.enc
def Nine (c : Cd) : Prop:=∃ a0 a1 a2 a3 a4 a5 a6 a7 a8,c=v9 a0 a1 a2 a3 a4 a5 a6 a7 a8
theorem atC {B : Bs} {l : List Cd} {b off : Nat} {w : World} (h : Lies eC 35 B l b off w) (i : Nat) (hi : i<l.length) (j : Nat) (hj : j<9) : w.cell? ⟨b,off+i*9+j,none⟩=some (.int .i64 (l[i] j)):=by
 obtain ⟨cs,hc,hu⟩:=h.at i hi
 obtain rfl : cs=(fc l[i]).toList:=hc
 exact hu j _ (by rw [Array.getElem?_toList];exact fc_at _ j hj)
theorem Row.lot {α : Type} {e : Flat α} {T : TypeId} {n Bo g cap : Nat} {xs : List α} {w : World} (h : Row e T g cap xs w) (hB : Bo≤g) (hn : n≤g) : Lot e.enc T n Bo g xs w:=by
 obtain ⟨cur,hg,_,_⟩:=h.ex
 exact ⟨⟨h.lt,.inr ⟨⟨_,hg⟩,fun h=>h⟩,fun i x hx=>⟨e.f x,rfl,fun j u hu=>by rw [Nat.zero_add];exact h.cell hx hu⟩⟩,⟨_,hg⟩,hB,hn⟩
theorem infoR : (Tryz.prog.info? 37).map (fun i=>(i.zero,i.size,i.bytes))=some (some (.agg #[.int .i64 0,.int .i64 0,.int .i64 0,.int .i64 0,.int .i64 0]),5,40):=by kernel_rfl
theorem make_replies (m : Nat) (hm : m≤1000000) (w : World) : (Instr.makeSlice 41 (.int .i64 m) (.int .i64 m)).run Tryz.prog w=.ok (.slice (some ⟨w.heap.size,0,none⟩) m m) (w.alloc (.cells (madeCells #[.int .i64 0,.int .i64 0,.int .i64 0,.int .i64 0,.int .i64 0] (m*5)) 37)):=by
 obtain ⟨i,h1,h2,h3,h4⟩:=info_parts infoR
 have:=run_make (P:=Tryz.prog) w 41 37 i _ Tryz.underlying41 h1 h2 .i64 .i64 m m (by omega) (Int.le_refl _) (by rw [h4];omega) (by omega)
 rw [h3] at this
 simpa [Value.cells] using this
theorem storeMidR (ρ : Operand→Value) (dst : Option Tmp) (ty : TypeId) (pos : String) (after : Array Edge) (guard : Option (Nat × Bool)) (w : World) (p x : Operand) (h : thereOf w (ρ p) 5) (hs : (ρ x).cells.size=5) (h1 : oneAll (ρ x)=true) (ha : ρ x=.agg (ρ x).cells) :
  (execOp ρ { dst,op:=.store 37 p x,type:=ty,pos,after,guard }).run Tryz.prog w=.ok .skip (putMid w (ρ p) (ρ x).cells):=by
 generalize hp : ρ p=P at h ⊢
 generalize hv : ρ x=X at hs h1 ha ⊢
 match P,h with
 | .pointer (some ⟨b,o,none⟩),h =>
  have:=run_storeAt_mid (P:=Tryz.prog) w b o 37 X.cells (by rw [hs];exact h) (by rw [hs];kernel_rfl) h1
  rw [← ha] at this
  simp [execOp,hp,hv,this,putMid]
attribute [local go_sem ↓] storeMidR
theorem Lot.put {α : Type} {e : Enc α} {T : TypeId} {n Bo g : Nat} {l : List α} {w : World} (h : Lot e T n Bo g l w) (hT : T ∉ e.ts) {i : Nat} (hi : i<l.length) {x : α} {cs : List Value} (hR : e.R (Bs.of n) x cs w) :
  w.there g (i*e.k) e.k∧Lot e T n Bo g (l.set i x) (w.setCells g (i*e.k) cs)∧∀ ts,T ∉ ts→Da.Keeps (Bs.of n) ts w (w.setCells g (i*e.k) cs):=by
 obtain ⟨cur,hg⟩:=h.ty
 have h1:=Lies.there h.ls hg hi
 have h2:=Lies.setAt h.ls hg (fun h=>h) h.lo hT hi hR
 simp only [Nat.zero_add] at h1 h2
 obtain ⟨cur',hg'⟩:=heap_cells g T (0,0) cs (i*e.k) w cur hg
 exact ⟨h1,⟨h2,⟨cur',hg'⟩,h.bo,h.lo⟩,fun ts ht=>keeps_cells g T (0,0) ht h.lo _ _ w cur hg⟩
def PostRn (n : Nat) (y : Xc) (rs : List Rp) (w : World) (e : Ending) (w' : World) : Prop:=∃ v g c,e=.returned (.tuple #[v,.slice (some ⟨g,0,none⟩) rs.length c])∧Below w.heap.size w w'∧XV n y v w'∧Lot eRp 37 n w.heap.size g rs w'
theorem set_rep {α : Type} (xs : List α) (z y : α) {N k : Nat} (hk : k<N) (hl : xs.length=k) : (xs++List.replicate (N - k) z).set k y=(xs++[y])++List.replicate (N - (k+1)) z:=by
 obtain ⟨m,hm⟩ : ∃ m,N - k=m+1:=⟨N - k - 1,by omega⟩
 rw [hm,show N - (k+1)=m by omega,List.replicate_succ,List.set_append_right _ _ (by omega),hl,Nat.sub_self]
 simp
structure RunS (n b N g : Nat) (x : Xc) (l : List Cd) (k : Nat) (w u : World) : Prop where
 bx : ∃ f l' s i o,XB n (runX x (l.take k)) f l' s i o b u
 z : u.heap[b+1]?=some (.cells #[.slice none 0 0,.slice none 0 0,.slice none 0 0,.slice none 0 0,.slice none 0 0] 28 (0,0))
 lot : Lot eRp 37 n b g (runR x (l.take k)++List.replicate (N - k) z5) u
 bel : Below b w u
 ne : g≠b∧g≠b+1
theorem RunS.next {n b N g : Nat} {x : Xc} {l : List Cd} {k : Nat} {w u u2 X Y : World} {A : Xc × Rp} {f l' s i o : Value} (h : RunS n b N g x l k w u) (hn : n≤b) (hkl : k<l.length) (hN : N=l.length) (hA : apply (runX x (l.take k)) l[k]=A) (hb : Below u.heap.size u u2) (d : XD n A.1 f l' s i o u2)
  (hX : X=u2.setRow b #[f,l',s,i,o]) (hY : Y=X.setCells g (k*5) [.int .i64 A.2.1,.int .i64 A.2.2.1,.int .i64 A.2.2.2.1,.int .i64 A.2.2.2.2.1,.int .i64 A.2.2.2.2.2]) : Rw.plain 5 u2 b=true∧X.there g (k*5) 5∧RunS n b N g x l (k+1) w Y:=by
 obtain ⟨⟨f0,l0,s0,i0,o0,hx⟩,hz,hlot,hbel,hg1,hg2⟩:=h
 have hx2:=hx.stays hb
 have hz2:=(hb.block _ (lt_of_some hz)).trans hz
 have hl2:=hlot.stays hb
 have hlen : (runR x (l.take k)).length=k:=by rw [runR_len,List.length_take];omega
 have hXb : X.heap[b]?=some (.cells #[f,l',s,i,o] 28 (0,0)):=by rw [hX];exact setRow_heap u2 _ _ _ _ _ hx2.bk
 have hXo : ∀ j,j≠b→X.heap[j]?=u2.heap[j]?:=fun j hj=>by rw [hX];exact setRow_other u2 b j _ hj
 have kX : ∀ ts,28 ∉ ts→Da.Keeps (Bs.of n) ts u2 X:=fun ts ht=>by rw [hX];exact Bk.keeps_setRow (B:=Bs.of n) _ hx2.bk ht hn
 have hlX : Lot eRp 37 n b g (runR x (l.take k)++List.replicate (N - k) z5) X:=by
  obtain ⟨cur,hc⟩:=hl2.ty
  exact ⟨Lies.keep _ _ hl2.ls (kX _ (by decide)),⟨cur,(hXo g hg1).trans hc⟩,hl2.bo,hl2.lo⟩
 obtain ⟨t1,t2,t3⟩:=hlX.put (by decide) (i:=k) (by rw [List.length_append,List.length_replicate];omega) (x:=A.2) (cs:=[.int .i64 A.2.1,.int .i64 A.2.2.1,.int .i64 A.2.2.2.1,.int .i64 A.2.2.2.2.1,.int .i64 A.2.2.2.2.2]) rfl
 have hYo : ∀ j,j≠g→Y.heap[j]?=X.heap[j]?:=fun j hj=>by rw [hY];exact other_cells g j hj _ _ X
 have t1 : X.there g (k*5) 5:=t1
 have t2 : Lot eRp 37 n b g ((runR x (l.take k)++List.replicate (N - k) z5).set k A.2) Y:=by rw [hY];exact t2
 have t3 : ∀ ts,37 ∉ ts→Da.Keeps (Bs.of n) ts X Y:=fun ts ht=>by rw [hY];exact t3 ts ht
 refine ⟨plain_is hx2.bk rfl,t1,⟨f,l',s,i,o,?_⟩,?_,?_,?_,hg1,hg2⟩
 ·rw [runX_take hkl,hA]
  exact ⟨(hYo b (Ne.symm hg1)).trans hXb,hn,(d.keep (kX _ (by decide))).keep (t3 _ (by decide))⟩
 ·exact (hYo _ (Ne.symm hg2)).trans ((hXo _ (by omega)).trans hz2)
 ·rw [runR_take hkl,hA,← set_rep _ _ _ (by omega) hlen];exact t2
 ·rw [hY,hX]
  exact ((hbel.trans (hb.mono (Nat.le_of_lt hx.lt))).trans (by exact below_setRow (Below.refl _ _) (Nat.le_refl _) _)).trans (low_cells g b hl2.bo _ _ _)
theorem runX_sm (l : List Cd) {x : Xc} (h : SmX x) : SmX (runX x l):=by
 induction l generalizing x with
 | nil=>exact h
 | cons c r ih=>exact ih (apply_sm h c)
theorem runX_any (n : Nat) (x : Xc) (v : Value) (l : List Cd) (u : Value) (w : World) (h : XV n x v w) (hn : n≤w.heap.size) (hs : SmX x) (hl : CL (Bs.of w.heap.size) l u w) (hm : l.length≤100000) (h9 : ∀ c∈l,Nine c) :
  Calls Tryz.prog 18 #[v,u] w (PostRn n (runX x l) (runR x l) w):=by
 obtain ⟨_,_,_,_,_,rfl,hd⟩:=h
 obtain ⟨a1,d1,a2,d2,a3,d3,a4,d4,a5,d5,rfl,rfl,rfl,rfl,rfl⟩:=hd.open'
 obtain ⟨n1,q1⟩ : ∃ q,x.free.length=q:=⟨_,rfl⟩
 obtain ⟨n2,q2⟩ : ∃ q,x.lanes.length=q:=⟨_,rfl⟩
 obtain ⟨n3,q3⟩ : ∃ q,x.sess.length=q:=⟨_,rfl⟩
 obtain ⟨n4,q4⟩ : ∃ q,x.inn.length=q:=⟨_,rfl⟩
 obtain ⟨n5,q5⟩ : ∃ q,x.out.length=q:=⟨_,rfl⟩
 rw [q1,q2,q3,q4,q5] at hd ⊢
 obtain ⟨ca,cc,rfl,hel⟩:=hl
 obtain ⟨N,hN⟩ : ∃ N,N=l.length:=⟨_,rfl⟩
 rw [← hN] at hm ⊢
 obtain ⟨W,hW⟩ : ∃ W,W=(w.alloc (.cells #[.slice a1 n1 d1,.slice a2 n2 d2,.slice a3 n3 d3,.slice a4 n4 d4,.slice a5 n5 d5] 28)).alloc (.cells #[.slice none 0 0,.slice none 0 0,.slice none 0 0,.slice none 0 0,.slice none 0 0] 28):=⟨_,rfl⟩
 have hbW : Below w.heap.size w W:=hW ▸ below2 w _ _
 have hzW : W.heap.size=w.heap.size+2:=by rw [hW];simp
 have hmk:=make_replies N (by omega) W
 rw [hzW] at hmk
 obtain ⟨V,hV⟩ : ∃ V,V=W.alloc (.cells (madeCells #[.int .i64 0,.int .i64 0,.int .i64 0,.int .i64 0,.int .i64 0] (N*5)) 37):=⟨_,rfl⟩
 have hbV : Below w.heap.size w V:=nx hbW (hV ▸ below1 W _)
 rw [← hV] at hmk
 have S0:=lH (show RunS n w.heap.size N (w.heap.size+2) x l 0 w V from by
  have hx0 : XB n x (.slice a1 n1 d1) (.slice a2 n2 d2) (.slice a3 n3 d3) (.slice a4 n4 d4) (.slice a5 n5 d5) w.heap.size W:=by rw [hW];exact (XB.made hd hn).stays (below1 _ _)
  refine ⟨⟨_,_,_,_,_,hx0.stays (hV ▸ below1 W _)⟩,?_,?_,hbV,by omega,by omega⟩
  ·rw [hV,heap_al,if_neg (by omega),hW,heap_al,if_pos (by simp)]
  ·have:=Ro.Row.made (e:=fR) (T:=37) (w:=W) (n:=N) (z:=#[.int .i64 0,.int .i64 0,.int .i64 0,.int .i64 0,.int .i64 0]) z5 rfl (by decide)
   rw [hzW] at this
   rw [hV]
   exact Row.lot this (Nat.le_add_right _ _) (by omega))
 have HEl:=lH hel
 have HN:=lH hN
 have H9:=lH h9
 have HS:=lH hs
 have Hn:=lH hn
 rw [hW] at hmk
 have HV:=lH hV
 clear hd hs hel hN h9 hV hW hbW hzW hbV q1 q2 q3 q4 q5 hn
 go_enter Tryz.func18,Tryz.ntmps18
 go_wp2
 clear hmk
 go_loopw [7,14] (fun _ i wr=>∃ k : Nat,k≤N∧i=.int .i64 k∧RunS n w.heap.size N (w.heap.size+2) x l k w wr) (fun _ i _=>N - (intOf i).toNat)
 case atStart=>exact ⟨0,Nat.zero_le _,rfl,S0.out⟩
 case round =>
  obtain ⟨k,hk,rfl,hS⟩:=hrel
  obtain ⟨⟨f,l',s,i,o,hx⟩,hz,hlot,hbel,_⟩:=hS
  obtain ⟨b1,c1,b2,c2,b3,c3,b4,c4,b5,c5,rfl,rfl,rfl,rfl,rfl⟩:=hx.d.open'
  obtain ⟨y,hy⟩ : ∃ y,runX x (l.take k)=y:=⟨_,rfl⟩
  rw [hy] at hx
  obtain ⟨n1,q1⟩ : ∃ q,y.free.length=q:=⟨_,rfl⟩
  obtain ⟨n2,q2⟩ : ∃ q,y.lanes.length=q:=⟨_,rfl⟩
  obtain ⟨n3,q3⟩ : ∃ q,y.sess.length=q:=⟨_,rfl⟩
  obtain ⟨n4,q4⟩ : ∃ q,y.inn.length=q:=⟨_,rfl⟩
  obtain ⟨n5,q5⟩ : ∃ q,y.out.length=q:=⟨_,rfl⟩
  rw [q1,q2,q3,q4,q5] at hx
  have HX:=lH hx
  have Hz:=lH hz
  have HLt:=lH hlot
  have HB:=lH hbel
  have Hy:=lH hy
  clear hx hz hlot hbel hy q1 q2 q3 q4 q5
  by_cases hlt : k<N
  ·have hlt2 : (k : Int)<N:=by omega
   have hkl : k<l.length:=by rw [← HN.out];exact hlt
   rcases HEl.out with ⟨e,_⟩ | ⟨cb,off,rfl,hat⟩
   ·rw [e] at hkl;cases hkl
   have hat2:=Lies.keep eC 35 hat (Keeps.of_below (B:=Bs.of w.heap.size) (HB.out.trans (Below.refl _ _)))
   have hcb:=hat2.1
   obtain ⟨e0,e1,e2,e3,e4,e5,e6,e7,e8,hc⟩:=H9.out _ (List.getElem_mem hkl)
   have q0 : wr.cell? ⟨cb,off+k*9,none⟩=some (.int .i64 e0):=by have:=atC hat2 k hkl 0 (by decide);rw [hc] at this;exact this
   have q1 : wr.cell? ⟨cb,off+k*9+1,none⟩=some (.int .i64 e1):=by have:=atC hat2 k hkl 1 (by decide);rw [hc] at this;exact this
   have q2 : wr.cell? ⟨cb,off+k*9+2,none⟩=some (.int .i64 e2):=by have:=atC hat2 k hkl 2 (by decide);rw [hc] at this;exact this
   have q3 : wr.cell? ⟨cb,off+k*9+3,none⟩=some (.int .i64 e3):=by have:=atC hat2 k hkl 3 (by decide);rw [hc] at this;exact this
   have q4 : wr.cell? ⟨cb,off+k*9+4,none⟩=some (.int .i64 e4):=by have:=atC hat2 k hkl 4 (by decide);rw [hc] at this;exact this
   have q5 : wr.cell? ⟨cb,off+k*9+5,none⟩=some (.int .i64 e5):=by have:=atC hat2 k hkl 5 (by decide);rw [hc] at this;exact this
   have q6 : wr.cell? ⟨cb,off+k*9+6,none⟩=some (.int .i64 e6):=by have:=atC hat2 k hkl 6 (by decide);rw [hc] at this;exact this
   have q7 : wr.cell? ⟨cb,off+k*9+7,none⟩=some (.int .i64 e7):=by have:=atC hat2 k hkl 7 (by decide);rw [hc] at this;exact this
   have q8 : wr.cell? ⟨cb,off+k*9+8,none⟩=some (.int .i64 e8):=by have:=atC hat2 k hkl 8 (by decide);rw [hc] at this;exact this
   obtain ⟨A,hA⟩ : ∃ A,apply y (v9 e0 e1 e2 e3 e4 e5 e6 e7 e8)=A:=⟨_,rfl⟩
   obtain ⟨V2,hV2⟩ : ∃ V,V=wr.alloc (.cells (fc (v9 e0 e1 e2 e3 e4 e5 e6 e7 e8)) 35):=⟨_,rfl⟩
   have hbV2 : Below wr.heap.size wr V2:=hV2 ▸ below1 wr _
   have hrb : row V2 w.heap.size=#[.slice b1 n1 c1,.slice b2 n2 c2,.slice b3 n3 c3,.slice b4 n4 c4,.slice b5 n5 c5]:=(HX.out.stays hbV2).row
   have hrc : row V2 wr.heap.size=fc (v9 e0 e1 e2 e3 e4 e5 e6 e7 e8):=by rw [hV2];exact row_is (heap_alloc_new _ _)
   have hlb : w.heap.size<wr.heap.size:=HX.out.lt
   have HAp:=lH (hA ▸ applyX_any n y _ (v9 e0 e1 e2 e3 e4 e5 e6 e7 e8) V2 ⟨_,_,_,_,_,rfl,(HX.out.stays hbV2).d⟩ (by have:=hbV2.size;have:=Hn.out;omega) (by rw [← Hy.out];exact runX_sm _ HS.out))
   have HA:=lH (show apply (runX x (l.take k)) l[k]=A from by rw [Hy.out,hc,hA])
   have HS2:=lH (show RunS n w.heap.size N (w.heap.size+2) x l k w wr from ⟨⟨_,_,_,_,_,by rw [Hy.out];exact HX.out⟩,Hz.out,HLt.out,HB.out,by omega,by omega⟩)
   have HKl:=lH hkl
   have HBV2:=lH hbV2
   have HV2:=lH hV2
   rw [hV2] at hrb hrc
   clear hA hc hat hat2 hV2 hbV2
   go_wp2_with fail
   rw [← HV2.out]
   clear q0 q1 q2 q3 q4 q5 q6 q7 q8 hrb hrc
   refine HAp.out.mono ?_
   rintro e w2 ⟨v2,rfl,hb2,hx2⟩
   obtain ⟨_,_,_,_,_,rfl,dy⟩:=hx2
   obtain ⟨u1,k1,u2,k2,u3,k3,u4,k4,u5,k5,rfl,rfl,rfl,rfl,rfl⟩:=dy.open'
   obtain ⟨X,hX⟩ : ∃ X,X=w2.setRow w.heap.size #[.slice u1 A.1.free.length k1,.slice u2 A.1.lanes.length k2,.slice u3 A.1.sess.length k3,.slice u4 A.1.inn.length k4,.slice u5 A.1.out.length k5]:=⟨_,rfl⟩
   obtain ⟨Y,hY⟩ : ∃ Y,Y=X.setCells (w.heap.size+2) (k*5) [.int .i64 A.2.1,.int .i64 A.2.2.1,.int .i64 A.2.2.2.1,.int .i64 A.2.2.2.2.1,.int .i64 A.2.2.2.2.2]:=⟨_,rfl⟩
   obtain ⟨p1,p2,p3⟩:=HS2.out.next Hn.out hkl HN.out HA.out (nx HBV2.out hb2) dy hX hY
   have HF:=lH p3
   have HY:=lH (show Y=(w2.setRow w.heap.size #[.slice u1 A.1.free.length k1,.slice u2 A.1.lanes.length k2,.slice u3 A.1.sess.length k3,.slice u4 A.1.inn.length k4,.slice u5 A.1.out.length k5]).setCells (w.heap.size+2) (k*5) [.int .i64 A.2.1,.int .i64 A.2.2.1,.int .i64 A.2.2.2.1,.int .i64 A.2.2.2.2.1,.int .i64 A.2.2.2.2.2] from by rw [hY,hX])
   rw [hX] at p2
   clear p3 hX hY dy hb2
   go_wp2
   go_roundw
   case rel=>exact ⟨k+1,by omega,by go_num,by first | exact HF.out | (rw [← HY.out];exact HF.out)⟩
   case measure=>simp [intOf];omega
  ·obtain rfl : k=N:=by omega
   have r1:=HX.out.row
   have p1 : plain 5 wr (w.heap.size+1)=true:=plain_is Hz.out rfl
   obtain ⟨Z,hZ⟩ : ∃ Z,Z=wr.setRow (w.heap.size+1) #[.slice b1 n1 c1,.slice b2 n2 c2,.slice b3 n3 c3,.slice b4 n4 c4,.slice b5 n5 c5]:=⟨_,rfl⟩
   have kZ : ∀ ts,28 ∉ ts→Da.Keeps (Bs.of n) ts wr Z:=fun ts ht=>by rw [hZ];exact Bk.keeps_setRow (B:=Bs.of n) _ Hz.out ht (Nat.le_succ_of_le Hn.out)
   have ht : l.take k=l:=by rw [HN.out,List.take_length]
   have hlot:=HLt.out
   rw [ht,Nat.sub_self,List.replicate_zero,List.append_nil] at hlot
   have hyl : runX x l=y:=by rw [← Hy.out,ht]
   have HF:=lH (show Below w.heap.size w Z∧XV n (runX x l) (.agg #[.slice b1 n1 c1,.slice b2 n2 c2,.slice b3 n3 c3,.slice b4 n4 c4,.slice b5 n5 c5]) Z∧Lot eRp 37 n w.heap.size (w.heap.size+2) (runR x l) Z∧row Z (w.heap.size+1)=#[.slice b1 n1 c1,.slice b2 n2 c2,.slice b3 n3 c3,.slice b4 n4 c4,.slice b5 n5 c5] from
    ⟨by rw [hZ];exact below_setRow HB.out (Nat.le_succ _) _,by rw [hyl];exact ⟨_,_,_,_,_,rfl,HX.out.d.keep (kZ _ (by decide))⟩,by
     obtain ⟨cur,hc⟩:=hlot.ty
     exact ⟨Lies.keep _ _ hlot.ls (kZ _ (by decide)),⟨cur,by rw [hZ];exact (setRow_other wr _ _ _ (by omega)).trans hc⟩,hlot.bo,hlot.lo⟩,by rw [hZ];exact row_set _ p1⟩)
   have HZ:=lH hZ
   have HL:=lH (show (runR x l).length=k from by rw [runR_len,HN.out])
   clear hZ kZ ht hlot hyl
   go_wp2
   rw [← HZ.out]
   refine bodyPost_ret (v:=.tuple #[.agg #[.slice b1 n1 c1,.slice b2 n2 c2,.slice b3 n3 c3,.slice b4 n4 c4,.slice b5 n5 c5],.slice (some ⟨w.heap.size+2,0,none⟩) k k]) (ret_X2 Tryz.results18 _ _ rfl ?c1) rfl ⟨_,_,_,by rw [HL.out],HF.out.1,HF.out.2.1,HF.out.2.2.1⟩
   case c1=>exact HF.out.2.2.2
end Go.Proofs.YtjhocpcpkemcaaaGreat.Ex
