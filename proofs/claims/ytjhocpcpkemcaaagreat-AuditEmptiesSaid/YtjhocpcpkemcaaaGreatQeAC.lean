/- Pure: behind any Puts and Removes. -/
import Derived.Test.YtjhocpcpkemcaaaGreatQeZZ
import Derived.Test.YtjhocpcpkemcaaaGreatQeAB
set_option linter.unusedVariables false
set_option maxRecDepth 16000
set_option maxHeartbeats 32000000
namespace Go.Proofs.YtjhocpcpkemcaaaGreat.Le
theorem remO_app (id:Int):∀ (a b:List Od) (d:Bool),remO id (a++b) d=remO id a d++remO id b (d||a.any (hasId id))
 | [],b,d=>by simp [remO]
 | o :: r,b,d=>by
  rw [List.cons_append,remO,remO,List.any_cons]
  split
  ·rename_i h
   simp only [Bool.and_eq_true,Bool.not_eq_true'] at h
   rw [remO_app id r b true,h.1];simp
  ·rename_i h
   rw [remO_app id r b d,List.cons_append]
   cases d
   ·simp only [Bool.not_false,Bool.and_true,Bool.not_eq_true] at h
    rw [h];simp
   ·simp
theorem flat_rem (id:Int):∀ (l:List Lv) (d:Bool),flat (remL id l d)=remO id (flat l) d
 | [],d=>by simp [remL,flat,remO]
 | v :: r,d=>by
  rw [remL,flat_app,flat_cons,remO_app,flat_rem id r]
  congr 1
  unfold remS
  split
  ·rename_i h;rw [h];rfl
  ·rw [flat_cons,flat_nil,List.append_nil]
theorem remO_sub (id:Int):∀ (l:List Od) (d:Bool),(remO id l d).Sublist l
 | [],d=>List.Sublist.refl _
 | o :: r,d=>by
  rw [remO]
  split
  ·exact (remO_sub id r true).cons _
  ·exact (remO_sub id r d).cons_cons _
theorem fnd_mem {L:List Od} (hn:(L.map oid).Nodup) {x:Od} (hx:x∈L):fnd L x.1=some x:=by
 induction L with
 | nil=>cases hx
 | cons o r ih =>
  unfold fnd
  rw [List.map_cons,List.nodup_cons] at hn
  rw [List.find?_cons]
  rcases List.mem_cons.1 hx with rfl | hx
  ·rw [hasId_self]
  ·have:o.1≠x.1:=fun e=>hn.1 (List.mem_map.2 ⟨x,hx,e.symm⟩)
   rw [hasId_no this]
   exact ih hn.2 hx
theorem fnd_some {L:List Od} {id:Int} {x:Od} (h:fnd L id=some x):x∈L∧x.1=id:=by
 unfold fnd at h
 exact ⟨List.mem_of_find?_eq_some h,by have:=List.find?_some h;simpa [hasId] using this⟩
theorem remO_filter {id:Int}:∀ {L:List Od},(L.map oid).Nodup→remO id L false=L.filter (fun o=>!hasId id o)
 | [],_=>rfl
 | o :: r,hn=>by
  rw [List.map_cons,List.nodup_cons] at hn
  rw [remO]
  by_cases e:o.1=id
  ·subst e
   have hr:∀ p∈r,p.1≠o.1:=fun p hp h=>hn.1 (List.mem_map.2 ⟨p,hp,h⟩)
   rw [hasId_self,if_pos (by decide),remO_true,List.filter_cons,hasId_self,if_neg (by decide)]
   exact (List.filter_eq_self.2 fun p hp=>by rw [hasId_no (hr p hp)];rfl).symm
  ·rw [hasId_no e,if_neg (by decide),remO_filter hn.2,List.filter_cons,hasId_no e,if_pos (by decide)]
theorem right_remL {s:Int} (id:Int):∀ {l:List Lv} {d:Bool},RightL s l→RightL s (remL id l d)
 | [],d,h=>h
 | v :: r,d,h=>by
  rw [right_cons] at h
  obtain ⟨h1,h2,h3,h4,h5,h6⟩:=h
  have ih:=right_remL id (d:=d||v.2.any (hasId id)) h6
  rw [remL]
  unfold remS
  split
  ·exact ih
  ·rename_i hne
   have hs:=remO_sub id v.2 d
   show RightL s ((v.1,remO id v.2 d) :: remL id r (d||v.2.any (hasId id)))
   rw [right_cons]
   refine ⟨h1,⟨hne,fun o ho=>h2.2 o (hs.subset ho)⟩,fun u hu=>?_,fun o ho p hp=>?_,(hs.map oid).nodup h5,ih⟩
   ·have key:∀ (r:List Lv) (d:Bool),∀ u∈remL id r d,∃ x∈r,x.1=u.1:=by
     intro r
     induction r with
     | nil=>intro d u hu;cases hu
     | cons x r ih2 =>
      intro d u hu
      rw [remL] at hu
      rcases List.mem_append.1 hu with hu | hu
      ·unfold remS at hu
       split at hu
       ·cases hu
       ·simp at hu;exact ⟨x,List.mem_cons_self,by rw [hu]⟩
      ·obtain ⟨y,hy,e⟩:=ih2 _ u hu
       exact ⟨y,List.mem_cons_of_mem _ hy,e⟩
    obtain ⟨x,hx,e⟩:=key r _ u hu
    rw [← e];exact h3 x hx
   ·rw [flat_rem] at hp
    exact h4 o (hs.subset ho) p ((remO_sub id _ _).subset hp)
end Go.Proofs.YtjhocpcpkemcaaaGreat.Le
namespace Go.Proofs.YtjhocpcpkemcaaaGreat.Bk
open Le
abbrev Fl:=Int × Int × Int × Int × Bool
def olf (o:Od):Int:=o.2.2.2.2
def oow (o:Od):Int:=o.2.1
def meets (s p other:Int):Bool:=if s=1 then decide (other≤p) else decide (p≤other)
def mkF (o:Od) (n:Int):Fl:=(o.1,oow o,opr o,n,decide (n=olf o))
def tr (ow s p:Int):List Od→Int→Option (List Fl × Int)
 | [],q=>some ([],q)
 | o :: r,q=>if q=0∨meets s p (opr o)=false then some ([],q) else if oow o=ow then none else
   match tr ow s p r (q - min q (olf o)) with
   | some (fs,lf)=>some (mkF o (min q (olf o)) :: fs,lf)
   | none=>none
def less (o:Od) (n:Int):Od:=(o.1,o.2.1,o.2.2.1,o.2.2.2.1,o.2.2.2.2 - n)
def aft (s p:Int):List Od→Int→List Od
 | [],_=>[]
 | o :: r,q=>if q=0∨meets s p (opr o)=false then o :: r else if q<olf o then less o q :: r else aft s p r (q - olf o)
def dn (fs:List Fl):Nat:=(fs.filter (·.2.2.2.2)).length
def sumQ (fs:List Fl):Int:=(fs.map (·.2.2.2.1)).sum
theorem tr_zero (ow s p:Int) (os:List Od):tr ow s p os 0=some ([],0):=by
 cases os with
 | nil=>rfl
 | cons o r=>rw [tr,if_pos (.inl rfl)]
theorem tr_step {ow s p:Int} {o:Od} {r:List Od} {q:Int} {fs:List Fl} {lf:Int} (h:tr ow s p (o :: r) q=some (fs,lf)) (hq:0≤q) (_ho:1≤olf o) :
  ((q=0∨meets s p (opr o)=false)∧fs=[]∧lf=q∧aft s p (o :: r) q=o :: r) ∨
  (0<q∧meets s p (opr o)=true∧oow o≠ow∧q<olf o∧fs=[mkF o q]∧lf=0∧aft s p (o :: r) q=less o q :: r) ∨
  (0<q∧meets s p (opr o)=true∧oow o≠ow∧olf o≤q∧∃ gs,fs=mkF o (olf o) :: gs∧tr ow s p r (q - olf o)=some (gs,lf)∧aft s p (o :: r) q=aft s p r (q - olf o)):=by
 rw [tr] at h
 rw [aft]
 by_cases h1:q=0∨meets s p (opr o)=false
 ·rw [if_pos h1] at h ⊢
  simp only [Option.some.injEq,Prod.mk.injEq] at h
  exact .inl ⟨h1,h.1.symm,h.2.symm,rfl⟩
 ·rw [if_neg h1] at h ⊢
  have hq0:0<q:=by
   rcases Int.lt_or_eq_of_le hq with h | h
   ·exact h
   ·exact absurd (.inl h.symm) h1
  have hm:meets s p (opr o)=true:=by
   cases e:meets s p (opr o)
   ·exact absurd (.inr e) h1
   ·rfl
  by_cases h2:oow o=ow
  ·rw [if_pos h2] at h;cases h
  ·rw [if_neg h2] at h
   by_cases h3:q<olf o
   ·rw [if_pos h3,show min q (olf o)=q by omega,Int.sub_self,tr_zero] at *
    simp only [Option.some.injEq,Prod.mk.injEq] at h
    exact .inr (.inl ⟨hq0,hm,h2,h3,h.1.symm,h.2.symm,rfl⟩)
   ·rw [if_neg h3]
    rw [show min q (olf o)=olf o by omega] at h
    cases ht:tr ow s p r (q - olf o) with
    | none=>rw [ht] at h;cases h
    | some x =>
     obtain ⟨gs,l2⟩:=x
     rw [ht] at h
     simp only [Option.some.injEq,Prod.mk.injEq] at h
     obtain ⟨h4,h5⟩:=h
     subst h5
     exact .inr (.inr ⟨hq0,hm,h2,by omega,gs,h4.symm,rfl,rfl⟩)
structure TrS (ow s p:Int) (os:List Od) (q:Int) (fs:List Fl) (lf:Int):Prop where
 nn:0≤lf
 sum:sumQ fs+lf=q
 len:fs.length≤os.length
 at':∀ i (h:i<fs.length),∃ h':i<os.length,∃ n:Int,fs[i]=mkF os[i] n∧1≤n∧n≤olf os[i]∧meets s p (opr os[i])=true∧oow os[i]≠ow∧(n<olf os[i]→i+1=fs.length)
 stop:0<lf→(∀ (h:fs.length<os.length),meets s p (opr os[fs.length])=false)∧∀ x,(aft s p os q).head?=some x→meets s p (opr x)=false
 cnt:(aft s p os q).length+dn fs=os.length
 from':∀ x∈aft s p os q,∃ y∈os,∃ n,x=less y n∧0≤n∧n<olf y
 head:∀ x,(aft s p os q).head?=some x→∃ y∈os,opr y=opr x
theorem less_zero (o:Od):less o 0=o:=by unfold less;rw [Int.sub_zero]
theorem tr_spec {ow s p:Int}:∀ {os:List Od} {q:Int} {fs:List Fl} {lf:Int},(∀ o∈os,1≤olf o)→0≤q→tr ow s p os q=some (fs,lf)→TrS ow s p os q fs lf
 | [],q,fs,lf,_,hq,h=>by
  simp only [tr,Option.some.injEq,Prod.mk.injEq] at h
  obtain ⟨rfl,rfl⟩:=h
  exact ⟨hq,by simp [sumQ],by simp,fun i h=>by simp at h,fun _=>⟨fun h=>by simp at h,fun x h=>by simp [aft] at h⟩,rfl,fun x h=>by simp [aft] at h,fun x h=>by simp [aft] at h⟩
 | o :: r,q,fs,lf,ho,hq,h=>by
  have ho1:=ho o List.mem_cons_self
  have hself:∀ x∈o :: r,∃ y∈o :: r,∃ n,x=less y n∧0≤n∧n<olf y:=fun x hx=>⟨x,hx,0,(less_zero x).symm,Int.le_refl _,by have:=ho x hx;omega⟩
  rcases tr_step h hq ho1 with ⟨h1,rfl,rfl,h2⟩ | ⟨h1,h2,h3,h4,rfl,rfl,h5⟩ | ⟨h1,h2,h3,h4,gs,rfl,h5,h6⟩
  ·refine ⟨hq,by simp [sumQ],by simp,fun i h=>by simp at h,fun hp=>?_,by rw [h2];simp [dn],by rw [h2];exact hself,fun x hx=>⟨x,?_,rfl⟩⟩
   ·have hm:meets s p (opr o)=false:=by
     rcases h1 with e | e
     ·omega
     ·exact e
    exact ⟨fun _=>hm,fun x hx=>by rw [h2] at hx;simp at hx;subst hx;exact hm⟩
   ·rw [h2] at hx;simp at hx;subst hx;exact List.mem_cons_self
  ·have hd:decide (q=olf o)=false:=decide_eq_false (by omega)
   refine ⟨Int.le_refl _,by simp [sumQ,mkF],by simp,fun i hi=>?_,fun hp=>by omega,by rw [h5];simp [dn,mkF,hd],fun x hx=>?_,fun x hx=>⟨o,List.mem_cons_self,?_⟩⟩
   ·obtain rfl:i=0:=by simpa using hi
    exact ⟨by simp,q,rfl,h1,by simp;omega,h2,h3,fun _=>rfl⟩
   ·rw [h5] at hx
    rcases List.mem_cons.1 hx with rfl | hx
    ·exact ⟨o,List.mem_cons_self,q,rfl,hq,h4⟩
    ·exact hself x (List.mem_cons_of_mem _ hx)
   ·rw [h5] at hx;simp at hx;subst hx;rfl
  ·have ih:=tr_spec (fun x hx=>ho x (List.mem_cons_of_mem _ hx)) (by omega) h5
   have hd:decide (olf o=olf o)=true:=decide_eq_true rfl
   refine ⟨ih.nn,?_,by have:=ih.len;simp;omega,fun i hi=>?_,fun hp=>?_,?_,fun x hx=>?_,fun x hx=>?_⟩
   ·have:=ih.sum
    unfold sumQ at this ⊢
    rw [List.map_cons,List.sum_cons]
    show olf o+_+lf=q
    omega
   ·cases i with
    | zero=>exact ⟨by simp,olf o,rfl,ho1,by simp,h2,h3,fun h=>by simp at h⟩
    | succ i =>
     obtain ⟨a1,n,a2,a3,a4,a5,a6,a7⟩:=ih.at' i (by simpa using hi)
     exact ⟨by simpa using a1,n,a2,a3,a4,a5,a6,fun hn=>by have:=a7 hn;simp;exact this⟩
   ·obtain ⟨b1,b2⟩:=ih.stop hp
    exact ⟨fun hh=>b1 (by simpa using hh),fun x hx=>b2 x (by rw [h6] at hx;exact hx)⟩
   ·have:=ih.cnt
    rw [h6]
    unfold dn at this ⊢
    have e1:List.filter (fun x:Fl=>x.2.2.2.2) (mkF o (olf o) :: gs)=mkF o (olf o) :: List.filter (fun x:Fl=>x.2.2.2.2) gs:=List.filter_cons_of_pos hd
    rw [e1,List.length_cons,List.length_cons]
    omega
   ·rw [h6] at hx
    obtain ⟨y,hy,c⟩:=ih.from' x hx
    exact ⟨y,List.mem_cons_of_mem _ hy,c⟩
   ·rw [h6] at hx
    obtain ⟨y,hy,c⟩:=ih.head x hx
    exact ⟨y,List.mem_cons_of_mem _ hy,c⟩
def updO (id n:Int) (o:Od):Od:=if o.1=id then less o n else o
def upd (id n:Int) (l:List Lv):List Lv:=l.map fun v=>(v.1,v.2.map (updO id n))
def fil1 (l:List Lv) (f:Fl):List Lv:=if f.2.2.2.2=true then rem l f.1 else upd f.1 f.2.2.2.1 l
def fil (l:List Lv) (fs:List Fl):List Lv:=fs.foldl fil1 l
theorem flat_upd (id n:Int) (l:List Lv):flat (upd id n l)=(flat l).map (updO id n):=by
 unfold upd
 induction l with
 | nil=>rfl
 | cons v r ih=>rw [List.map_cons,flat_cons,flat_cons,List.map_append,ih]
theorem updO_ids (id n:Int) (o:Od):(updO id n o).1=o.1∧opr (updO id n o)=opr o:=by
 unfold updO;split<;>exact ⟨rfl,rfl⟩
theorem right_upd {s id n:Int} {l:List Lv} (h:RightL s l) (hn:∀ o∈flat l,o.1=id→0≤n∧n<olf o):RightL s (upd id n l):=by
 obtain ⟨h1,h2,h3,h4⟩:=h
 refine ⟨h1,fun v hv=>?_,?_,?_⟩
 ·obtain ⟨u,hu,rfl⟩:=List.mem_map.1 hv
  obtain ⟨k1,k2⟩:=h2 u hu
  refine ⟨by simpa using k1,fun o ho=>?_⟩
  obtain ⟨x,hx,rfl⟩:=List.mem_map.1 ho
  obtain ⟨m1,m2⟩:=k2 x hx
  refine ⟨?_,by rw [(updO_ids id n x).2];exact m2⟩
  unfold updO
  by_cases e:x.1=id
  ·rw [if_pos e]
   have:=hn x (List.mem_flatMap.2 ⟨u,hu,hx⟩) e
   rw [omay_iff] at m1 ⊢
   unfold olf at this
   unfold less
   simp only
   omega
  ·rw [if_neg e];exact m1
 ·unfold upd
  rw [List.pairwise_map]
  exact h3
 ·rw [flat_upd,List.map_map]
  have:(oid ∘ updO id n)=oid:=by funext o;exact (updO_ids id n o).1
  rw [this];exact h4
theorem flat_rem_head {s:Int} {l:List Lv} {o:Od} {r:List Od} (h:RightL s l) (hf:flat l=o :: r):flat (rem l o.1)=r:=by
 show flat (remL o.1 l false)=r
 rw [flat_rem,remO_filter h.2.2.2,hf,List.filter_cons]
 have hn:=h.2.2.2
 rw [hf,List.map_cons,List.nodup_cons] at hn
 have e1:(!hasId o.1 o)=false:=by simp [hasId]
 rw [e1,if_neg (by decide)]
 refine List.filter_eq_self.2 fun x hx=>?_
 have:x.1≠o.1:=fun e=>hn.1 (List.mem_map.2 ⟨x,hx,e⟩)
 simp [hasId,this]
theorem fil_spec {sd ow s p:Int}:∀ (os:List Od) {l:List Lv} {q:Int} {fs:List Fl} {lf:Int},flat l=os→RightL sd l→0≤q→tr ow s p os q=some (fs,lf)→RightL sd (fil l fs)∧flat (fil l fs)=aft s p os q
 | [],l,q,fs,lf,hf,hr,hq,h=>by
  simp only [tr,Option.some.injEq,Prod.mk.injEq] at h
  obtain ⟨rfl,rfl⟩:=h
  exact ⟨hr,hf⟩
 | o :: r,l,q,fs,lf,hf,hr,hq,h=>by
  have hmem:∀ x∈flat l,1≤olf x:=fun x hx=>by
   obtain ⟨v,hv,hx⟩:=List.mem_flatMap.1 hx
   have:=((hr.2.1 v hv).2 x hx).1
   rw [omay_iff] at this;unfold olf;omega
  have ho1:1≤olf o:=hmem o (by rw [hf];exact List.mem_cons_self)
  rcases tr_step h hq ho1 with ⟨h1,rfl,rfl,h2⟩ | ⟨h1,h2,h3,h4,rfl,rfl,h5⟩ | ⟨h1,h2,h3,h4,gs,rfl,h5,h6⟩
  ·rw [h2];exact ⟨hr,hf⟩
  ·have hd:¬ decide (q=olf o)=true:=by simp;omega
   have hn:=hr.2.2.2
   rw [hf,List.map_cons,List.nodup_cons] at hn
   have e1:fil l [mkF o q]=upd o.1 q l:=by
    show fil1 l (mkF o q)=_
    unfold fil1 mkF
    rw [if_neg hd]
   rw [e1,h5]
   have huniq:∀ x∈flat l,x.1=o.1→x=o:=fun x hx e=>by
    rw [hf] at hx
    rcases List.mem_cons.1 hx with rfl | hx
    ·rfl
    ·exact absurd (List.mem_map.2 ⟨x,hx,e⟩) hn.1
   refine ⟨right_upd hr fun x hx e=>by rw [huniq x hx e];exact ⟨hq,h4⟩,?_⟩
   rw [flat_upd,hf,List.map_cons]
   congr 1
   ·unfold updO;rw [if_pos rfl]
   ·refine (List.map_congr_left fun x hx=>?_).trans (List.map_id _)
    unfold updO
    rw [if_neg (fun e:x.1=o.1=>hn.1 (List.mem_map.2 ⟨x,hx,e⟩))];rfl
  ·have hd:decide (olf o=olf o)=true:=decide_eq_true rfl
   have e1:fil l (mkF o (olf o) :: gs)=fil (rem l o.1) gs:=by
    show fil (fil1 l (mkF o (olf o))) gs=_
    congr 1
    unfold fil1 mkF
    rw [if_pos hd]
   rw [e1,h6]
   exact fil_spec r (flat_rem_head hr hf) (right_remL o.1 hr) (by omega) h5
abbrev Bk:=List Lv × List Lv × Int
def cntB (b:Bk):Nat:=(flat b.1).length+(flat b.2.1).length
def bestP (l:List Lv):Int:=match (flat l).head? with
 | some o=>opr o
 | none=>0
structure RightB (b:Bk):Prop where
 n1:1≤b.2.2
 n2:b.2.2≤1073741824
 buys:RightL 1 b.1
 sells:RightL 2 b.2.1
 cnt:cntB b≤40
 apart:∀ o∈flat b.1,∀ x∈flat b.2.1,o.1≠x.1
 ltB:∀ o∈flat b.1,o.1<b.2.2
 ltS:∀ o∈flat b.2.1,o.1<b.2.2
 cross:∀ o∈flat b.1,∀ x∈flat b.2.1,opr o<opr x
noncomputable def rightB (b:Bk):Bool:=@decide (RightB b) (Classical.propDecidable _)
theorem rightB_iff {b:Bk}:rightB b=true ↔ RightB b:=by unfold rightB;exact @decide_eq_true_iff _ (Classical.propDecidable _)
theorem rightB_no {b:Bk} (h:¬ RightB b):rightB b=false:=by
 cases e:rightB b
 ·rfl
 ·exact absurd (rightB_iff.1 e) h
theorem right_new:RightB ([],[],1) :=
 ⟨by decide,by decide,right_nil (.inl rfl),right_nil (.inr rfl),by decide,by simp [flat],by simp [flat],by simp [flat],by simp [flat]⟩
def argOk (ow s p q:Int):Bool:=decide (0≤ow∧ow<64∧(s=1∨s=2)∧1≤p∧p≤1048576∧1≤q∧q≤1048576)
theorem argOk_iff {ow s p q:Int}:argOk ow s p q=true ↔ 0≤ow∧ow<64∧(s=1∨s=2)∧1≤p∧p≤1048576∧1≤q∧q≤1048576:=by simp [argOk]
def oth (b:Bk) (s:Int):List Lv:=if s=1 then b.2.1 else b.1
def wout (b:Bk) (s:Int) (fs:List Fl):Bk:=if s=1 then (b.1,fil b.2.1 fs,b.2.2) else (fil b.1 fs,b.2.1,b.2.2)
def putB (b:Bk) (o:Od):Bk:=if o.2.2.1=1 then (putL 1 o b.1,b.2.1,b.2.2+1) else (b.1,putL 2 o b.2.1,b.2.2+1)
abbrev Pl:=Bk × List Fl × Int × Int × Int
noncomputable def place (b:Bk) (ow s p q:Int) (rest:Bool):Pl :=
 if rightB b&&argOk ow s p q then
  match tr ow s p (flat (oth b s)) q with
  | none=>(b,[],0,0,11)
  | some (fs,lf) =>
   if rest=true∧0<lf then
    if 40≤(cntB b:Int) - (dn fs:Nat)∨b.2.2=1073741824 then (b,[],0,0,10)
    else (putB (wout b s fs) (b.2.2,ow,s,p,lf),fs,lf,b.2.2,0)
   else (wout b s fs,fs,lf,0,0)
 else (b,[],0,0,1)
def fndB (b:Bk) (id:Int):Option Od:=match fnd (flat b.1) id with
 | some o=>some o
 | none=>fnd (flat b.2.1) id
def remB (b:Bk) (o:Od):Bk:=if o.2.2.1=1 then (rem b.1 o.1,b.2.1,b.2.2) else (b.1,rem b.2.1 o.1,b.2.2)
noncomputable def cancel (b:Bk) (ow id:Int):Bk × Option Od × Int :=
 if rightB b then
  match fndB b id with
  | none=>(b,none,8)
  | some o=>if o.2.1=ow then (remB b o,some o,0) else (b,none,9)
 else (b,none,1)
theorem mem_may {s:Int} {l:List Lv} (h:RightL s l) {o:Od} (ho:o∈flat l):omay o s=true:=by
 obtain ⟨v,hv,hx⟩:=List.mem_flatMap.1 ho
 exact ((h.2.1 v hv).2 o hx).1
theorem left_pos {s:Int} {l:List Lv} (h:RightL s l):∀ o∈flat l,1≤olf o:=fun o ho=>by
 have:=mem_may h ho
 rw [omay_iff] at this;unfold olf;omega
theorem head_best {s:Int}:∀ {l:List Lv} {x:Od},RightL s l→(flat l).head?=some x→∀ o∈flat l,Le.ahead s (opr x) (opr o)=true∨opr x=opr o
 | [],x,_,hx,o,ho=>by simp [flat] at ho
 | v :: r,x,h,hx,o,ho=>by
  have h2:=right_cons.1 h
  obtain ⟨_,⟨hne,hok⟩,hah,_,_,_⟩:=h2
  have hxv:x∈v.2:=by
   rw [flat_cons] at hx
   cases e:v.2 with
   | nil=>exact absurd e hne
   | cons y t =>
    rw [e] at hx;simp at hx;subst hx;exact List.mem_cons_self
  have hxp:=(hok x hxv).2
  rw [flat_cons] at ho
  rcases List.mem_append.1 ho with ho | ho
  ·exact .inr (by rw [hxp,(hok o ho).2])
  ·obtain ⟨u,hu,hou⟩:=List.mem_flatMap.1 ho
   left
   have:=hah u hu
   rw [hxp,((h.2.1 u (List.mem_cons_of_mem _ hu)).2 o hou).2]
   exact this
theorem tr_wout {b:Bk} {ow s p q:Int} {fs:List Fl} {lf:Int} (h:RightB b) (hs:s=1∨s=2) (hq:0≤q) (ht:tr ow s p (flat (oth b s)) q=some (fs,lf)) :
  RightB (wout b s fs)∧cntB (wout b s fs)+dn fs=cntB b∧TrS ow s p (flat (oth b s)) q fs lf∧flat (oth (wout b s fs) s)=aft s p (flat (oth b s)) q∧(wout b s fs).2.2=b.2.2:=by
 rcases hs with rfl | rfl
 ·simp only [oth,wout,if_true] at ht ⊢
  have hsp:=tr_spec (left_pos h.sells) hq ht
  obtain ⟨k1,k2⟩:=fil_spec (sd:=2) _ rfl h.sells hq ht
  have hc:cntB (b.1,fil b.2.1 fs,b.2.2)+dn fs=cntB b:=by
   have:=hsp.cnt
   unfold cntB
   simp only
   rw [k2];omega
  have hf:∀ x∈flat (fil b.2.1 fs),∃ y∈flat b.2.1,x.1=y.1∧opr x=opr y:=fun x hx=>by
   rw [k2] at hx
   obtain ⟨y,hy,n,rfl,_⟩:=hsp.from' x hx
   exact ⟨y,hy,rfl,rfl⟩
  refine ⟨⟨h.n1,h.n2,h.buys,k1,by have:=h.cnt;omega,fun o ho x hx=>?_,h.ltB,fun x hx=>?_,fun o ho x hx=>?_⟩,hc,hsp,k2,trivial⟩
  ·obtain ⟨y,hy,e,_⟩:=hf x hx
   rw [e];exact h.apart o ho y hy
  ·obtain ⟨y,hy,e,_⟩:=hf x hx
   rw [e];exact h.ltS y hy
  ·obtain ⟨y,hy,_,e⟩:=hf x hx
   rw [e];exact h.cross o ho y hy
 ·have e21:¬ (2:Int)=1:=by decide
  simp only [oth,wout,e21,if_false] at ht ⊢
  have hsp:=tr_spec (left_pos h.buys) hq ht
  obtain ⟨k1,k2⟩:=fil_spec (sd:=1) _ rfl h.buys hq ht
  have hc:cntB (fil b.1 fs,b.2.1,b.2.2)+dn fs=cntB b:=by
   have:=hsp.cnt
   unfold cntB
   simp only
   rw [k2];omega
  have hf:∀ x∈flat (fil b.1 fs),∃ y∈flat b.1,x.1=y.1∧opr x=opr y:=fun x hx=>by
   rw [k2] at hx
   obtain ⟨y,hy,n,rfl,_⟩:=hsp.from' x hx
   exact ⟨y,hy,rfl,rfl⟩
  refine ⟨⟨h.n1,h.n2,k1,h.sells,by have:=h.cnt;omega,fun o ho x hx=>?_,fun x hx=>?_,h.ltS,fun o ho x hx=>?_⟩,hc,hsp,k2,trivial⟩
  ·obtain ⟨y,hy,e,_⟩:=hf o ho
   rw [e];exact h.apart y hy x hx
  ·obtain ⟨y,hy,e,_⟩:=hf x hx
   rw [e];exact h.ltB y hy
  ·obtain ⟨y,hy,_,e⟩:=hf o ho
   rw [e];exact h.cross y hy x hx
theorem mem_put {s:Int} {o x:Od} {l:List Lv} (hx:x∈flat (putL s o l)):x=o∨x∈flat l:=by
 have:=(flat_put (s:=s) (o:=o) (l:=l)).mem_iff.1 hx
 rcases List.mem_cons.1 this with h | h
 ·exact .inl h
 ·exact .inr h
theorem len_put {s:Int} {o:Od} {l:List Lv}:(flat (putL s o l)).length=(flat l).length+1:=by
 rw [(flat_put (s:=s) (o:=o) (l:=l)).length_eq];rfl
theorem none_meets {s p:Int} {l:List Lv} (hs:s=1∨s=2) (h:RightL (3 - s) l) (hh:∀ x,(flat l).head?=some x→meets s p (opr x)=false):∀ o∈flat l,meets s p (opr o)=false:=by
 intro o ho
 cases e:(flat l).head? with
 | none=>rw [List.head?_eq_none_iff.1 e] at ho;cases ho
 | some x =>
  have h1:=hh x e
  have h2:=head_best h e o ho
  unfold meets at h1 ⊢
  rcases hs with rfl | rfl
  ·simp [Le.ahead] at h1 h2 ⊢;omega
  ·simp [Le.ahead] at h1 h2 ⊢;omega
theorem right_putB {b:Bk} {ow s p lf:Int} (h:RightB b) (hs:s=1∨s=2) (hm:omay (b.2.2,ow,s,p,lf) s=true) (hn:b.2.2<1073741824) (hc:cntB b<40) (hh:∀ x,(flat (oth b s)).head?=some x→meets s p (opr x)=false) :
  RightB (putB b (b.2.2,ow,s,p,lf))∧(putB b (b.2.2,ow,s,p,lf)).2.2=b.2.2+1:=by
 rcases hs with rfl | rfl
 ·simp only [putB,oth,if_true] at hh ⊢
  have hnm:=none_meets (s:=1) (.inl rfl) h.sells hh
  have hf:fnd (flat b.1) b.2.2=none:=fnd_none.2 fun o ho=>by have:=h.ltB o ho;omega
  refine ⟨⟨by show 1≤b.2.2+1;have:=h.n1;omega,by show b.2.2+1≤_;omega,right_put h.buys hm hf,h.sells,by unfold cntB at hc ⊢;simp only [len_put];omega,fun o ho x hx=>?_,fun o ho=>?_,fun x hx=>?_,fun o ho x hx=>?_⟩,trivial⟩
  ·rcases mem_put ho with rfl | ho
   ·have:=h.ltS x hx;simp only;omega
   ·exact h.apart o ho x hx
  ·show o.1<b.2.2+1
   rcases mem_put ho with rfl | ho
   ·simp only;omega
   ·have:=h.ltB o ho;omega
  ·show x.1<b.2.2+1
   have:=h.ltS x hx;omega
  ·rcases mem_put ho with rfl | ho
   ·have:=hnm x hx
    simp [meets] at this
    exact this
   ·exact h.cross o ho x hx
 ·have e21:¬ (2:Int)=1:=by decide
  simp only [putB,oth,e21,if_false] at hh ⊢
  have hnm:=none_meets (s:=2) (.inr rfl) h.buys hh
  have hf:fnd (flat b.2.1) b.2.2=none:=fnd_none.2 fun o ho=>by have:=h.ltS o ho;omega
  refine ⟨⟨by show 1≤b.2.2+1;have:=h.n1;omega,by show b.2.2+1≤_;omega,h.buys,right_put h.sells hm hf,by unfold cntB at hc ⊢;simp only [len_put];omega,fun o ho x hx=>?_,fun o ho=>?_,fun x hx=>?_,fun o ho x hx=>?_⟩,trivial⟩
  ·rcases mem_put hx with rfl | hx
   ·have:=h.ltB o ho;simp only;omega
   ·exact h.apart o ho x hx
  ·show o.1<b.2.2+1
   have:=h.ltB o ho;omega
  ·show x.1<b.2.2+1
   rcases mem_put hx with rfl | hx
   ·simp only;omega
   ·have:=h.ltS x hx;omega
  ·rcases mem_put hx with rfl | hx
   ·have:=hnm o ho
    simp [meets] at this
    exact this
   ·exact h.cross o ho x hx
structure PlS (b:Bk) (ow s p q:Int) (rest:Bool) (fs:List Fl) (lf:Int) (r:Bk) (id:Int):Prop where
 arg:argOk ow s p q=true
 tr':TrS ow s p (flat (oth b s)) q fs lf
 right:RightB r
 num:id=if rest=true∧0<lf then b.2.2 else 0
 find:fnd (flat (r.1++r.2.1)) b.2.2=if rest=true∧0<lf then some (b.2.2,ow,s,p,lf) else none
theorem fnd_app (l m:List Od) (id:Int):fnd (l++m) id=match fnd l id with
  | some o=>some o
  | none=>fnd m id:=by
 unfold fnd
 rw [List.find?_append]
 cases List.find? (hasId id) l<;>rfl
theorem fnd_lt {l:List Od} {n id:Int} (h:∀ o∈l,o.1<n) (hn:n≤id):fnd l id=none :=
 fnd_none.2 fun o ho e=>by have:=h o ho;omega
theorem fnd_put_new {s:Int} {o:Od} {l:List Lv} (h:∀ x∈flat l,x.1≠o.1):fnd (flat (putL s o l)) o.1=some o:=by
 have hp:=flat_put (s:=s) (o:=o) (l:=l)
 have hm:o∈flat (putL s o l):=hp.mem_iff.2 List.mem_cons_self
 cases e:fnd (flat (putL s o l)) o.1 with
 | none=>exact absurd rfl (fnd_none.1 e o hm)
 | some x =>
  obtain ⟨h1,h2⟩:=fnd_some e
  rcases mem_put h1 with rfl | h3
  ·rfl
  ·exact absurd h2 (h x h3)
theorem sumQ_nn:∀ {fs:List Fl},(∀ f∈fs,0≤f.2.2.2.1)→0≤sumQ fs
 | [],_=>Int.le_refl _
 | f :: r,h=>by
  have h1:=h f List.mem_cons_self
  have h2:=sumQ_nn (fs:=r) fun x hx=>h x (List.mem_cons_of_mem _ hx)
  unfold sumQ at h2 ⊢
  rw [List.map_cons,List.sum_cons];omega
theorem place_cases {b:Bk} {ow s p q:Int} {rest:Bool} (h:RightB b) :
  (∃ e:Int,e≠0∧place b ow s p q rest=(b,[],0,0,e))∨∃ fs lf r id,place b ow s p q rest=(r,fs,lf,id,0)∧PlS b ow s p q rest fs lf r id:=by
 unfold place
 rw [rightB_iff.2 h,Bool.true_and]
 cases ha:argOk ow s p q
 ·rw [if_neg (by decide)];exact .inl ⟨1,by decide,rfl⟩
 rw [if_pos rfl]
 have hA:=argOk_iff.1 ha
 cases ht:tr ow s p (flat (oth b s)) q with
 | none=>exact .inl ⟨11,by decide,rfl⟩
 | some x =>
  obtain ⟨fs,lf⟩:=x
  obtain ⟨k1,k2,k3,k4,k5⟩:=tr_wout h hA.2.2.1 (by omega) ht
  simp only
  by_cases hr:rest=true∧0<lf
  ·rw [if_pos hr]
   by_cases hf:40≤(cntB b:Int) - (dn fs:Nat)∨b.2.2=1073741824
   ·rw [if_pos hf];exact .inl ⟨10,by decide,rfl⟩
   ·rw [if_neg hf]
    right
    have hlf:lf≤q:=by
     have h1:=k3.sum
     have h2:0≤sumQ fs:=by
      refine sumQ_nn fun f hf=>?_
      obtain ⟨i,hi,rfl⟩:=List.getElem_of_mem hf
      obtain ⟨_,n,e,h3,_⟩:=k3.at' i hi
      rw [e];show 0≤n;omega
     omega
    have hm:omay (b.2.2,ow,s,p,lf) s=true:=by
     rw [omay_iff]
     have:=h.n1;have:=h.n2
     refine ⟨?_,?_,?_,?_,rfl,?_,?_,?_,?_⟩<;>simp only<;>omega
    obtain ⟨m1,m2⟩:=right_putB (lf:=lf) k1 hA.2.2.1 (by rw [k5];exact hm) (by rw [k5];have:=h.n2;omega) (by omega) (fun x hx=>by
     rw [k4] at hx
     exact (k3.stop hr.2).2 x hx)
    rw [k5] at m1 m2
    refine ⟨fs,lf,_,_,rfl,⟨ha,k3,m1,by rw [if_pos hr],?_⟩⟩
    rw [if_pos hr,flat_app,fnd_app]
    have hB:=k1.ltB
    have hS:=k1.ltS
    rw [k5] at hB hS
    rcases hA.2.2.1 with rfl | rfl
    ·simp only [putB,if_true]
     have e:fnd (flat (putL 1 (b.2.2,ow,1,p,lf) (wout b 1 fs).1)) b.2.2=some (b.2.2,ow,1,p,lf):=fnd_put_new (o:=(b.2.2,ow,1,p,lf)) fun x hx=>by have:=hB x hx;simp only;omega
     rw [e]
    ·have e21:¬ (2:Int)=1:=by decide
     simp only [putB,e21,if_false]
     rw [fnd_lt hB (Int.le_refl _)]
     exact fnd_put_new (o:=(b.2.2,ow,2,p,lf)) fun x hx=>by have:=hS x hx;simp only;omega
  ·rw [if_neg hr]
   right
   refine ⟨fs,lf,_,_,rfl,⟨ha,k3,k1,by rw [if_neg hr],?_⟩⟩
   rw [if_neg hr,flat_app,fnd_app]
   have hB:=k1.ltB
   have hS:=k1.ltS
   rw [k5] at hB hS
   rw [fnd_lt hB (Int.le_refl _)]
   exact fnd_lt hS (Int.le_refl _)
theorem cancel_cases {b:Bk} {ow id:Int} (h:RightB b) :
  (fndB b id=none∧cancel b ow id=(b,none,8))∨(∃ o,fndB b id=some o∧o.2.1≠ow∧cancel b ow id=(b,none,9))∨∃ o,fndB b id=some o∧o.2.1=ow∧o.1=id∧cancel b ow id=(remB b o,some o,0)∧RightB (remB b o)∧flat (remB b o).1++flat (remB b o).2.1=(flat b.1++flat b.2.1).filter (fun x=>!hasId id x)∧(remB b o).2.2=b.2.2:=by
 unfold cancel
 rw [if_pos (rightB_iff.2 h)]
 cases hf:fndB b id with
 | none=>exact .inl ⟨rfl,rfl⟩
 | some o =>
  right
  simp only
  by_cases ho:o.2.1=ow
  ·rw [if_pos ho]
   right
   refine ⟨o,rfl,ho,?_⟩
   have hside:(o∈flat b.1∧o.1=id∧o.2.2.1=1)∨(o∈flat b.2.1∧o.1=id∧o.2.2.1=2):=by
    unfold fndB at hf
    cases e:fnd (flat b.1) id with
    | some x =>
     rw [e] at hf
     obtain rfl:=Option.some.inj hf
     obtain ⟨h1,h2⟩:=fnd_some e
     exact .inl ⟨h1,h2,(omay_iff.1 (mem_may h.buys h1)).2.2.2.2.1⟩
    | none =>
     rw [e] at hf
     obtain ⟨h1,h2⟩:=fnd_some hf
     exact .inr ⟨h1,h2,(omay_iff.1 (mem_may h.sells h1)).2.2.2.2.1⟩
   have hrf:∀ {s:Int} {l:List Lv},RightL s l→flat (rem l o.1)=(flat l).filter (fun x=>!hasId o.1 x):=fun {s l} hr=>by
    show flat (remL o.1 l false)=_
    rw [flat_rem,remO_filter hr.2.2.2]
   have hsub:∀ {l:List Od} {x:Od},x∈l.filter (fun x=>!hasId o.1 x)→x∈l:=fun hx=>(List.mem_filter.1 hx).1
   have hno:∀ {l:List Od},(∀ x∈l,x.1≠o.1)→l.filter (fun x=>!hasId o.1 x)=l:=fun hl=>List.filter_eq_self.2 fun x hx=>by simp [hasId,hl x hx]
   rcases hside with ⟨h1,rfl,h3⟩ | ⟨h1,rfl,h3⟩
   ·have e1:remB b o=(rem b.1 o.1,b.2.1,b.2.2):=by unfold remB;rw [if_pos h3]
    rw [e1]
    refine ⟨rfl,rfl,⟨h.n1,h.n2,right_remL o.1 h.buys,h.sells,?_,fun x hx=>?_,fun x hx=>?_,h.ltS,fun x hx=>?_⟩,?_,rfl⟩
    ·have:=h.cnt
     unfold cntB at this ⊢
     simp only
     rw [hrf h.buys]
     have:=List.length_filter_le (fun x=>!hasId o.1 x) (flat b.1)
     omega
    ·rw [hrf h.buys] at hx;exact h.apart x (hsub hx)
    ·rw [hrf h.buys] at hx;exact h.ltB x (hsub hx)
    ·rw [hrf h.buys] at hx;exact h.cross x (hsub hx)
    ·rw [List.filter_append,hrf h.buys,hno (l:=flat b.2.1) fun x hx e=>h.apart o h1 x hx e.symm]
   ·have e1:remB b o=(b.1,rem b.2.1 o.1,b.2.2):=by unfold remB;rw [if_neg (by rw [h3];decide)]
    rw [e1]
    refine ⟨rfl,rfl,⟨h.n1,h.n2,h.buys,right_remL o.1 h.sells,?_,fun x hx y hy=>?_,h.ltB,fun x hx=>?_,fun x hx y hy=>?_⟩,?_,rfl⟩
    ·have:=h.cnt
     unfold cntB at this ⊢
     simp only
     rw [hrf h.sells]
     have:=List.length_filter_le (fun x=>!hasId o.1 x) (flat b.2.1)
     omega
    ·rw [hrf h.sells] at hy;exact h.apart x hx y (hsub hy)
    ·rw [hrf h.sells] at hx;exact h.ltS x (hsub hx)
    ·rw [hrf h.sells] at hy;exact h.cross x hx y (hsub hy)
    ·rw [List.filter_append,hrf h.sells,hno (l:=flat b.1) fun x hx e=>h.apart x hx o h1 e]
  ·rw [if_neg ho]
   exact .inl ⟨o,rfl,ho,rfl⟩
theorem place_right {b:Bk} {ow s p q:Int} {rest:Bool} (h:RightB b):RightB (place b ow s p q rest).1:=by
 rcases place_cases (ow:=ow) (s:=s) (p:=p) (q:=q) (rest:=rest) h with ⟨e,_,h1⟩ | ⟨fs,lf,r,id,h1,h2⟩
 ·rw [h1];exact h
 ·rw [h1];exact h2.right
end Go.Proofs.YtjhocpcpkemcaaaGreat.Bk
