/- Package level as it landed: slices.DeleteFunc of levels without orders. -/
import Derived.Test.YtjhocpcpkemcaaaGreatQeZZ
import Derived.Test.YtjhocpcpkemcaaaGreatQeBD
import Derived.Test.YtjhocpcpkemcaaaGreatQeBE
import Derived.Test.YtjhocpcpkemcaaaGreatQeBF
import Derived.Test.YtjhocpcpkemcaaaGreatQeAB
import Derived.Test.YtjhocpcpkemcaaaGreatQeAR
set_option linter.unusedVariables false
set_option maxRecDepth 16000
set_option maxHeartbeats 32000000
namespace Go.Proofs.YtjhocpcpkemcaaaGreat.Le
open Go.RowKit
open Rw
open Da
open Ro
def full (y:Hw):Bool:=decide (y.2.2.1≠0)
def ixE:List Hw→Nat→Int
 | [],_=>-1
 | y :: r,j=>if y.2.2.1=0 then (j:Int) else ixE r (j+1)
theorem hdrop {α:Type} {l:List α} {k:Nat} (h:k<l.length):l.drop k=l[k] :: l.drop (k+1):=List.drop_eq_getElem_cons h
theorem ixE_drop {hs:List Hw} {j:Nat} (h:j<hs.length):ixE (hs.drop j) j=if hs[j].2.2.1=0 then (j:Int) else ixE (hs.drop (j+1)) (j+1):=by
 rw [hdrop h];rfl
theorem ixE_spec:∀ (hs:List Hw) (j:Nat),(ixE hs j=-1∧hs.filter full=hs)∨∃ k,∃ h:k<hs.length,ixE hs j=((j+k:Nat):Int)∧hs[k].2.2.1=0∧(hs.take k).filter full=hs.take k
 | [],j=>.inl ⟨rfl,rfl⟩
 | y :: r,j=>by
  by_cases e:y.2.2.1=0
  ·exact .inr ⟨0,by simp,by simp [ixE,e],by simpa using e,by simp⟩
  ·have hf:full y=true:=by simp [full,e]
   rcases ixE_spec r (j+1) with ⟨h1,h2⟩ | ⟨k,hk,h1,h2,h3⟩
   ·exact .inl ⟨by simp only [ixE,e,if_false];exact h1,by rw [List.filter_cons,hf,h2];rfl⟩
   ·refine .inr ⟨k+1,by simp;omega,?_,by simpa using h2,?_⟩
    ·simp only [ixE,e,if_false,h1];congr 1;omega
    ·rw [List.take_succ_cons,List.filter_cons,hf,h3];rfl
theorem rowF_set {g cap:Nat} {xs:List Hw} {u:World} (h:RowF g cap xs u) {i:Nat} {x:Hw} (y:Hw) (hx:xs[i]?=some x):RowF g cap (xs.set i y) ((u.setCell ⟨g,i*2,none⟩ (.int .i64 y.1)).setCell ⟨g,i*2+1,none⟩ (hv y))∧u.grownBy ((u.setCell ⟨g,i*2,none⟩ (.int .i64 y.1)).setCell ⟨g,i*2+1,none⟩ (hv y)) (some g):=by
 have hi:i<xs.length:=(List.getElem?_eq_some_iff.1 hx).1
 have h1:=h.setCell (j:=0) (y:=(y.1,x.2)) (u:=.int .i64 y.1) hx (by decide) rfl
 have h2:=h1.setCell (j:=1) (y:=y) (u:=hv y) (List.getElem?_set_self hi) (by decide) rfl
 rw [List.set_set] at h2
 exact ⟨h2,grown_trans (setCell_grown u g (i*2) (.int .i64 y.1)) (setCell_grown _ g (i*2+1) (hv y))⟩
theorem indexFuncL_any (g n:Nat) (hs:List Hw) (w:World) (hrow:RowF g n hs w) (hl:n=hs.length) (hm:n≤1000000) (hbd:∀ y∈hs,y.2.2.1≤1000000) :
  Calls Tryz.prog 233 #[.slice (some ⟨g,0,none⟩) n n,.func (.func 143) #[] #[]] w fun e w'=>e=.returned (.int .i64 (ixE hs 0))∧Below w.heap.size w w':=by
 obtain ⟨r,hr⟩:∃ r,ixE (hs.drop 0) 0=r:=⟨_,rfl⟩
 have HG:Hid (ixE hs 0=r):=lH hr
 have HR:=lH hr
 have HW:=lH hrow
 have HL:=lH hl
 have HD:=lH hbd
 clear hrow hr hl hbd
 go_enter Tryz.func233,Tryz.ntmps233
 go_wp2
 go_loopw [5,8] (fun _ i wr=>∃ j:Nat,j≤n∧i=.int .i64 j∧Below w.heap.size w wr∧ixE (hs.drop j) j=r) (fun _ i _=>n - (intOf i).toNat)
 case atStart=>exact ⟨0,Nat.zero_le _,rfl,Below.refl _ _,HR.out⟩
 case round =>
  obtain ⟨j,hj,rfl,hb,hrj⟩:=hrel
  have HT:=lH hrj
  clear hrj
  by_cases hjm:j<n
  ·have hjm2:(j:Int)<n:=by omega
   have hjo:j<hs.length:=by rw [← HL.out];exact hjm
   have hrw:=HW.out.stays hb
   have hgz:=hrw.lt
   have hcons:=ixE_drop hjo
   have hmem:=HD.out _ (List.getElem_mem hjo)
   obtain ⟨⟨yp,ya,yn,yc⟩,hy⟩:∃ y,hs[j]'hjo=y:=⟨_,rfl⟩
   rw [hy] at hcons hmem
   simp only at hcons hmem
   obtain ⟨q0,q1,_,_⟩:=rowF_at hrw (show hs[j]?=some (yp,ya,yn,yc) by rw [← hy];exact List.getElem?_eq_getElem hjo)
   simp only [hv] at q1
   rw [HT.out] at hcons
   clear hrw hy
   rcases Nat.eq_zero_or_pos yn with h0 | h0
   ·subst h0
    have HZ:Hid (r=(j:Int)):=lH (by rw [hcons,if_pos rfl])
    clear hcons
    go_wp2_with fail
    refine (isEmpty_any _ _ _ _ (by omega) _).mono ?_
    rintro e w' ⟨rfl,hb1⟩
    go_wp2
    go_ret
    exact ⟨ret_int (by rw [HG.out,HZ.out]),nx hb hb1⟩
   ·have hd:Hid (decide (yn=0)=false):=lH (decide_eq_false (by omega))
    have HZ:Hid (ixE (hs.drop (j+1)) (j+1)=r):=lH (by rw [hcons,if_neg (by omega)])
    clear hcons
    go_wp2_with fail
    refine (isEmpty_any _ _ _ _ hmem _).mono ?_
    rintro e w' ⟨rfl,hb1⟩
    rw [hd.out]
    go_wp2
    go_roundw
    case rel=>exact ⟨j+1,by omega,by go_num,nx hb hb1,HZ.out⟩
    case measure=>simp [intOf];omega
  ·obtain rfl:j=n:=by omega
   have HZ:Hid (r=-1):=lH (by rw [← HT.out,HL.out,List.drop_length];rfl)
   clear hjm
   go_wp2
   go_ret
   exact ⟨ret_int (by rw [HG.out,HZ.out]),hb⟩
theorem indexFuncL_is {g n:Nat} {hs:List Hw} {w:World} {r:Int} (hr:Hid (ixE hs 0=r)) (hrow:RowF g n hs w) (hl:n=hs.length) (hm:n≤1000000) (hbd:∀ y∈hs,y.2.2.1≤1000000) :
  Calls Tryz.prog 233 #[.slice (some ⟨g,0,none⟩) n n,.func (.func 143) #[] #[]] w fun e w'=>e=.returned (.int .i64 r)∧Below w.heap.size w w':=by
 rw [← hr.out];exact indexFuncL_any g n hs w hrow hl hm hbd
def DfI (hs xs:List Hw) (i j:Nat):Prop:=xs.length=hs.length∧xs.take i=(hs.take j).filter full∧xs.drop j=hs.drop j
theorem DfI.at {hs xs:List Hw} {i j:Nat} (h:DfI hs xs i j) (hj:j<hs.length):xs[j]?=hs[j]?:=by
 have h1:(xs.drop j)[0]?=(hs.drop j)[0]?:=by rw [h.2.2]
 rw [List.getElem?_drop,List.getElem?_drop] at h1
 simpa using h1
theorem DfI.skip {hs xs:List Hw} {i j:Nat} (h:DfI hs xs i j) (hj:j<hs.length) (he:full hs[j]=false):DfI hs xs i (j+1):=by
 refine ⟨h.1,?_,?_⟩
 ·rw [h.2.1,Da.take_snoc hj,List.filter_append,List.filter_cons,he];simp
 ·rw [← List.drop_drop,h.2.2,List.drop_drop]
theorem DfI.keep {hs xs:List Hw} {i j:Nat} (h:DfI hs xs i j) (hij:i<j) (hj:j<hs.length) (he:full hs[j]=true):DfI hs (xs.set i hs[j]) (i+1) (j+1):=by
 have hix:i<xs.length:=by rw [h.1];omega
 refine ⟨by rw [List.length_set];exact h.1,?_,?_⟩
 ·rw [Da.take_snoc (by rw [List.length_set];exact hix),List.take_set_of_le (Nat.le_refl i),h.2.1,Da.take_snoc hj,List.filter_append,List.filter_cons,he,List.getElem_set_self];simp
 ·rw [List.drop_set_of_lt (by omega),← List.drop_drop,h.2.2,List.drop_drop]
def DfP (g n:Nat) (hs:List Hw) (w:World) (e:Ending) (w':World):Prop:=e=.returned (.slice (some ⟨g,0,none⟩) (hs.filter full).length n)∧RowF g n (hs.filter full) w'∧w.grownBy w' (some g)
theorem deleteFunc_any (g n:Nat) (hs:List Hw) (w:World) (hrow:RowF g n hs w) (hl:n=hs.length) (hm:n≤1000000) (hbd:∀ y∈hs,y.2.2.1≤1000000) :
  Calls Tryz.prog 214 #[.slice (some ⟨g,0,none⟩) n n,.func (.func 143) #[] #[]] w (DfP g n hs w):=by
 obtain ⟨q,hq⟩:∃ q,ixE hs 0=q:=⟨_,rfl⟩
 have HQ:=lH hq
 rcases ixE_spec hs 0 with ⟨h1,h2⟩ | ⟨k,hk,h1,h2,h3⟩
 ·rw [hq] at h1
  subst h1
  have HZ:=lH (show ∀ u,Below w.heap.size w u→DfP g n hs w (.returned (.slice (some ⟨g,0,none⟩) n n)) u from fun u hu=>⟨by rw [h2,← hl],by rw [h2];exact hrow.stays hu,grown_below _ hu⟩)
  have hcall:=lH (indexFuncL_is HQ hrow hl hm hbd)
  clear hq h2 hrow hl hbd
  go_enter Tryz.func214,Tryz.ntmps214
  go_wp2_with fail
  refine hcall.out.mono ?_
  rintro e w' ⟨rfl,hb1⟩
  go_wp2
  go_ret
  exact HZ.out _ hb1
 ·rw [hq,Nat.zero_add] at h1
  subst h1
  have hst:DfI hs hs k (k+1):=⟨rfl,by rw [Da.take_snoc hk,List.filter_append,h3,List.filter_cons];simp [full,h2],rfl⟩
  have HSt:=lH hst
  have HR:=lH hrow
  have HL:=lH hl
  have HD:=lH hbd
  have hcall:=lH (indexFuncL_is HQ hrow hl hm hbd)
  have hkn:k<n:=by omega
  clear hst hrow hl hbd h2 h3 hq
  go_enter Tryz.func214,Tryz.ntmps214
  go_wp2_with fail
  refine hcall.out.mono ?_
  rintro e w' ⟨rfl,hb1⟩
  have hd:((k:Int)==-1)=false:=by simp
  have HR1:=lH (HR.out.stays hb1)
  have HGr:=lH (grown_below (some g) hb1)
  go_wp2
  go_loopw [5,6,7] (fun s5 s6 _ wr=>∃ (i j:Nat) (xs:List Hw),s5=.int .i64 i∧s6=.int .i64 j∧i<j∧j≤n∧RowF g n xs wr∧DfI hs xs i j∧w.grownBy wr (some g)) (fun _ s6 _ _=>n - (intOf s6).toNat)
  case atStart=>exact ⟨k,k+1,hs,rfl,by go_num,by omega,by omega,HR1.out,HSt.out,HGr.out⟩
  case round =>
   obtain ⟨i,j,xs,rfl,rfl,hij,hjn,hrw,hinv,hgr⟩:=hrel
   have HI:=lH hinv
   have HW:=lH hrw
   have HG:=lH hgr
   have hgz:=hrw.lt
   clear hinv hrw hgr
   by_cases hjm:j<n
   ·have hjm2:(j:Int)<n:=by omega
    have hin2:(i:Int)<n:=by omega
    have hjo:j<hs.length:=by rw [← HL.out];exact hjm
    have hat:=HI.out.at hjo
    have hmem:=HD.out _ (List.getElem_mem hjo)
    obtain ⟨⟨yp,ya,yn,yc⟩,hy⟩:∃ y,hs[j]'hjo=y:=⟨_,rfl⟩
    rw [hy] at hmem
    simp only at hmem
    have hxj:xs[j]?=some (yp,ya,yn,yc):=by rw [hat,← hy];exact List.getElem?_eq_getElem hjo
    obtain ⟨q0,q1,_,_⟩:=rowF_at HW.out hxj
    simp only [hv] at q1
    have HY:=lH hy
    clear hat hy hxj
    have hbx:=below1 wr (.cells #[.int .i64 yp,.slice ya yn yc] 106)
    rcases Nat.eq_zero_or_pos yn with h0 | h0
    ·subst h0
     have HZ:=lH (HI.out.skip hjo (by rw [HY.out];simp [full]))
     go_wp2_with fail
     refine (isEmpty_any _ _ _ _ (by omega) _).mono ?_
     rintro e w2 ⟨rfl,hb2⟩
     have hb3:=nx hbx hb2
     go_wp2
     go_roundw
     case rel=>exact ⟨i,j+1,xs,rfl,by go_num,by omega,by omega,HW.out.stays hb3,HZ.out,grown_stays _ _ _ _ HG.out hb3⟩
     case measure=>simp [intOf];omega
    ·have hd2:Hid (decide (yn=0)=false):=lH (decide_eq_false (by omega))
     have HZ:=lH (HI.out.keep hij hjo (by rw [HY.out];simp [full];omega))
     rw [HY.out] at HZ
     go_wp2_with fail
     refine (isEmpty_any _ _ _ _ hmem _).mono ?_
     rintro e w2 ⟨rfl,hb2⟩
     rw [hd2.out]
     have hb3:=nx hbx hb2
     have hrw2:=HW.out.stays hb3
     have hix:i<xs.length:=by rw [HI.out.1];omega
     obtain ⟨c0,c1,f0,f1⟩:=rowF_at hrw2 (List.getElem?_eq_getElem hix)
     obtain ⟨hr4,hg4⟩:=rowF_set hrw2 (yp,ya,yn,yc) (List.getElem?_eq_getElem hix)
     simp only [hv] at hr4 hg4
     have HR4:=lH hr4
     have hg5:=grown_trans (grown_stays _ _ _ _ HG.out hb3) hg4
     have HG5:=lH hg5
     have b0:w2.cell? ⟨wr.heap.size,0,none⟩=some (.int .i64 yp):=by rw [hb2.cell (p:=⟨wr.heap.size,0,none⟩) (by simp)];simp [go_sem]
     have b1:w2.cell? ⟨wr.heap.size,1,none⟩=some (.slice ya yn yc):=by rw [hb2.cell (p:=⟨wr.heap.size,1,none⟩) (by simp)];simp [go_sem]
     clear hr4 hg4 hg5 hrw2
     go_wp2
     go_roundw
     case rel=>exact ⟨i+1,j+1,_,by go_num,by go_num,by omega,by omega,HR4.out,HZ.out,HG5.out⟩
     case measure=>simp [intOf];omega
   ·obtain rfl:j=n:=by omega
    have hfil:xs.take i=hs.filter full:=by have:=HI.out.2.1;rw [HL.out,List.take_length] at this;exact this
    have hil:(hs.filter full).length=i:=by rw [← hfil,List.length_take,HI.out.1,← HL.out];omega
    obtain ⟨w5,hrun,hr5,hg5⟩:=Row.clear elemF 0 zero2 (x0:=((0,none,0,0):Hw)) rfl (HW.out.take i) (o:=i) (m:=j - i) (c:=j - i) (by rw [List.length_take];omega) (by omega) (by omega)
    simp only [show fF.k=2 from rfl] at hrun
    have HZ:Hid (DfP g j hs w (.returned (.slice (some ⟨g,0,none⟩) i j)) w5):=lH ⟨by rw [hil],by rw [← hfil];exact hr5,grown_trans HG.out hg5⟩
    have k1:¬ j=i:=by omega
    have k2:(i:Int)≤j:=by omega
    clear hfil hil hr5 hg5
    go_wp2
    go_ret
    exact HZ.out
def neL (v:Lv):Bool:=!v.2.isEmpty
theorem remL_tt (id:Int):∀ (l:List Lv),remL id l true=l.filter neL
 | []=>rfl
 | v :: r=>by
  rw [remL,Bool.true_or,remL_tt id r,List.filter_cons]
  unfold remS neL
  rw [remO_true]
  by_cases h:v.2=[]
  ·rw [if_pos h,h];rfl
  ·rw [if_neg h]
   have:(!v.2.isEmpty)=true:=by cases e:v.2 with
    | nil=>exact absurd e h
    | cons=>rfl
   rw [this];rfl
theorem remO_no {id:Int} {os:List Od} (h:os.any (hasId id)=false):remO id os false=os :=
 remO_none fun o ho e=>by
  have:=List.any_eq_true.2 ⟨o,ho,show hasId id o=true by simpa [hasId] using e⟩
  rw [h] at this;cases this
theorem remO_at {id:Int}:∀ {os:List Od} {a:Nat} (ha:a<os.length),os[a].1=id→(os.take a).any (hasId id)=false→remO id os false=os.take a++os.drop (a+1)
 | [],a,ha,_,_=>by cases ha
 | o :: r,0,_,h1,_=>by
  have:hasId id o=true:=by simpa [hasId] using h1
  rw [remO,this]
  simp [remO_true]
 | o :: r,a+1,ha,h1,h2=>by
  rw [List.take_succ_cons,List.any_cons,Bool.or_eq_false_iff] at h2
  rw [remO,h2.1]
  have ih:=remO_at (os:=r) (a:=a) (by simpa using ha) (by simpa using h1) h2.2
  simp [ih]
def NoId (id:Int) (l:List Lv) (k:Nat):Prop:=∀ v∈l.take k,v.2.any (hasId id)=false
theorem NoId.snoc {id:Int} {l:List Lv} {k:Nat} (hk:k<l.length) (h:NoId id l k) (hv:l[k].2.any (hasId id)=false):NoId id l (k+1):=by
 unfold NoId
 rw [Da.take_snoc hk]
 intro v hm
 rcases List.mem_append.1 hm with hm | hm
 ·exact h v hm
 ·simp only [List.mem_singleton] at hm;rw [hm];exact hv
theorem remL_no {id:Int}:∀ {l:List Lv},(∀ v∈l,v.2.any (hasId id)=false)→remL id l false=l.filter neL∧fnd (flat l) id=none
 | [],_=>⟨rfl,rfl⟩
 | v :: r,h=>by
  obtain ⟨h1,h2⟩:=remL_no (l:=r) fun u hu=>h u (List.mem_cons_of_mem _ hu)
  have hv:=h v List.mem_cons_self
  refine ⟨?_,by rw [flat_cons,fnd_none_app hv];exact h2⟩
  rw [remL,hv,Bool.or_self,h1,List.filter_cons]
  unfold remS neL
  rw [remO_no hv]
  by_cases e:v.2=[]
  ·rw [if_pos e,e];rfl
  ·rw [if_neg e]
   have:(!v.2.isEmpty)=true:=by cases e2:v.2 with
    | nil=>exact absurd e2 e
    | cons=>rfl
   rw [this];rfl
theorem remL_at {id:Int}:∀ {l:List Lv} {k:Nat} (hk:k<l.length) {a:Nat} (ha:a<l[k].2.length),NoId id l k→l[k].2[a].1=id→(l[k].2.take a).any (hasId id)=false →
  remL id l false=(l.set k (l[k].1,l[k].2.take a++l[k].2.drop (a+1))).filter neL∧fnd (flat l) id=some l[k].2[a]
 | [],k,hk,_,_,_,_,_=>by cases hk
 | v :: r,0,_,a,ha,_,h1,h2=>by
  simp only [List.getElem_cons_zero] at ha h1 h2 ⊢
  refine ⟨?_,by rw [flat_cons,fnd_at_app ha h1 h2]⟩
  have hany:v.2.any (hasId id)=true:=List.any_eq_true.2 ⟨_,List.getElem_mem ha,by simpa [hasId] using h1⟩
  rw [remL,hany,Bool.or_true,remL_tt,List.set_cons_zero,List.filter_cons]
  unfold remS neL
  rw [remO_at ha h1 h2]
  simp only
  by_cases e:v.2.take a++v.2.drop (a+1)=[]
  ·rw [if_pos e,e];rfl
  ·rw [if_neg e]
   have:(!(v.2.take a++v.2.drop (a+1)).isEmpty)=true:=by cases e2:v.2.take a++v.2.drop (a+1) with
    | nil=>exact absurd e2 e
    | cons=>rfl
   rw [this];rfl
 | v :: r,k+1,hk,a,ha,h,h1,h2=>by
  simp only [List.getElem_cons_succ] at ha h1 h2 ⊢
  have hv:=h v (by rw [List.take_succ_cons];exact List.mem_cons_self)
  obtain ⟨i1,i2⟩:=remL_at (l:=r) (k:=k) (by simpa using hk) ha (fun u hu=>h u (by rw [List.take_succ_cons];exact List.mem_cons_of_mem _ hu)) h1 h2
  refine ⟨?_,by rw [flat_cons,fnd_none_app hv];exact i2⟩
  rw [remL,hv,Bool.or_self,i1,List.set_cons_succ,List.filter_cons]
  unfold remS
  rw [remO_no hv]
  by_cases e:v.2=[]
  ·rw [if_pos e];simp [neL,e]
  ·rw [if_neg e]
   have:neL v=true:=by unfold neL;cases e2:v.2 with
    | nil=>exact absurd e2 e
    | cons=>rfl
   rw [this];rfl
theorem Mine.lvs {B:Bs} {Bo:Nat} {l:List Lv} {hs:List Hw} {w:World} (hB:B.le Bo) (h:Mine B Bo l hs w):LvS B l hs w :=
 ⟨h.len,fun i x y hx hy=>⟨(h.own i x y hx hy).1,(h.own i x y hx hy).2.is (by decide) hB⟩⟩
theorem full_ne {B:Bs} {x:Lv} {y:Hw} {w:World} (h:OL B x.2 (hv y) w):full y=neL x∧y.2.2.1=x.2.length:=by
 obtain ⟨a,c,e⟩:=h.len
 simp only [hv,Value.slice.injEq] at e
 refine ⟨?_,e.2.1⟩
 unfold full neL
 rw [e.2.1]
 cases x.2<;>simp
theorem LvS.bd {B:Bs} {w:World} {L:List Lv} {ms:List Hw} (h:LvS B L ms w) (hf:(flat L).length≤1000000):∀ y∈ms,y.2.2.1≤1000000:=by
 intro y hy
 obtain ⟨i,hi,rfl⟩:=List.getElem_of_mem hy
 have hiL:i<L.length:=by rw [← h.len];exact hi
 obtain ⟨_,h2⟩:=h.at' i _ _ (List.getElem?_eq_getElem hiL) (List.getElem?_eq_getElem hi)
 rw [(full_ne h2).2]
 have h3:=flat_take_le L (i+1)
 rw [flat_take_snoc hiL,List.length_append] at h3
 omega
theorem delAt {B:Bs} {Bo g2 cap:Nat} {L:List Lv} {ys:List Hw} {W W':World} (hB:B.le Bo) (hM:Mine B Bo L ys W) {i k:Nat} {x:Lv} {y:Hw} (hx:L[i]?=some x) (hy:ys[i]?=some y) (hg:hv y=.slice (some ⟨g2,0,none⟩) (k+1) cap) (hBg:Bo≤g2) (hcap:cap≤maxLen)
  {os:List Od} (hr:RowO g2 cap os W') (hlen:os.length=k) (hgr:W.grownBy W' (some g2)) {G C:Nat} (hrow:RowF G C ys W') (hG:Bo≤G) :
  LvS B (L.set i (x.1,os)) (ys.set i (y.1,some ⟨g2,0,none⟩,k,cap)) (W'.setCell ⟨G,i*2+1,none⟩ (.slice (some ⟨g2,0,none⟩) k cap))∧RowF G C (ys.set i (y.1,some ⟨g2,0,none⟩,k,cap)) (W'.setCell ⟨G,i*2+1,none⟩ (.slice (some ⟨g2,0,none⟩) k cap)):=by
 have hset:=hrow.setCell (i:=i) (j:=1) (x:=y) (y:=(y.1,some ⟨g2,0,none⟩,k,cap)) (u:=.slice (some ⟨g2,0,none⟩) k cap) hy (by decide) rfl
 have hgr2:=setCell_grown W' G (i*2+1) (.slice (some ⟨g2,0,none⟩) k cap)
 have hk2:Keeps B [74] W' (W'.setCell ⟨G,i*2+1,none⟩ (.slice (some ⟨g2,0,none⟩) k cap)):=hrow.keeps (by have:=hB.1;omega) (by decide) hgr2
 refine ⟨⟨by rw [List.length_set,List.length_set,hM.len],fun j u z hu hz=>?_⟩,hset⟩
 by_cases e:i=j
 ·subst e
  have hil:i<L.length:=(List.getElem?_eq_some_iff.1 hx).1
  have hiy:i<ys.length:=(List.getElem?_eq_some_iff.1 hy).1
  rw [List.getElem?_set_self hil] at hu
  rw [List.getElem?_set_self hiy] at hz
  obtain rfl:=Option.some.inj hu
  obtain rfl:=Option.some.inj hz
  have ho:OwnO B Bo os (.slice (some ⟨g2,0,none⟩) os.length cap) W':=hr.own hBg hcap
  rw [hlen] at ho
  exact ⟨(hM.own i x y hx hy).1,Is.keep eO 74 (ho.is (by decide) hB) hk2⟩
 ·rw [List.getElem?_set_ne e] at hu hz
  obtain ⟨h1,h2⟩:=hM.own j u z hu hz
  refine ⟨h1,Is.keep eO 74 ((ownO_grown h2 hgr fun g hg1 hg2=>?_).is (by decide) hB) hk2⟩
  obtain rfl:g2=g:=Option.some.inj hg2
  have hyo:(hv y).ownBlock=some g2:=by rw [hg];rfl
  rcases Nat.lt_or_gt_of_ne e with hi | hi
  ·exact hM.apart i j y z g2 hi hy hz hyo hg1
  ·exact hM.apart j i z y g2 hi hz hy hg1 hyo
theorem rowO_of {B:Bs} {Bo:Nat} {os:List Od} {v:Value} {w:World} (h:OwnO B Bo os v w) {a:Nat} (ha:a<os.length):∃ g cap,v=.slice (some ⟨g,0,none⟩) os.length cap∧Bo≤g∧cap≤maxLen∧RowO g cap os w:=by
 rcases Row.ofOwn (e:=fO) (show Own fO.enc 74 B Bo os v w from h) with ⟨_,e⟩ | ⟨g,cap,h1,h2,h3,h4⟩
 ·rw [e] at ha;cases ha
 ·exact ⟨g,cap,h1,h2,h3,h4⟩
theorem rowO_at {g cap:Nat} {os:List Od} {u:World} (h:RowO g cap os u) {i:Nat} {o:Od} (ho:os[i]?=some o):u.cell? ⟨g,i*5,none⟩=some (.int .i64 o.1)∧u.cell? ⟨g,i*5+1,none⟩=some (.int .i64 o.2.1)∧u.cell? ⟨g,i*5+2,none⟩=some (.int .i64 o.2.2.1)∧u.cell? ⟨g,i*5+3,none⟩=some (.int .i64 o.2.2.2.1)∧u.cell? ⟨g,i*5+4,none⟩=some (.int .i64 o.2.2.2.2) :=
 ⟨h.cell ho (j:=0) rfl,h.cell ho (j:=1) rfl,h.cell ho (j:=2) rfl,h.cell ho (j:=3) rfl,h.cell ho (j:=4) rfl⟩
def MyL (B:Bs) (Bo:Nat) (l:List Lv) (v:Value) (w:World):Prop:=∃ hs,Is eF 106 B hs v w∧Mine B Bo l hs w
theorem MyL.keep {B:Bs} {Bo:Nat} {l:List Lv} {v:Value} {w w':World} (hB:B.le Bo) (h:MyL B Bo l v w) (hk:Keeps B [106,74] w w'):MyL B Bo l v w':=by
 obtain ⟨hs,h1,h2⟩:=h
 exact ⟨hs,Is.keep eF 106 h1 (hk.less (by simp [eF,Enc.flat])),h2.keep hB (hk.less (by simp))⟩
theorem MyL.stays {B:Bs} {Bo:Nat} {l:List Lv} {v:Value} {w w':World} (h:MyL B Bo l v w) (hb:Below w.heap.size w w'):MyL B Bo l v w':=by
 obtain ⟨hs,h1,h2⟩:=h
 exact ⟨hs,Is.stays eF 106 h1 hb,h2.stays hb⟩
theorem MyL.up {A B:Bs} {Bo Bo':Nat} {l:List Lv} {v:Value} {w:World} (hB:A.sub B) (h:MyL A Bo' l v w) (k:Bo≤Bo'):MyL B Bo l v w:=by
 obtain ⟨hs,h1,h2⟩:=h
 exact ⟨hs,Is.up eF 106 hB h1,h2.len,fun i x y hx hy=>⟨(h2.own i x y hx hy).1,Own.lower (h2.own i x y hx hy).2 k⟩,h2.apart⟩
theorem MyL.ll {B:Bs} {Bo:Nat} {l:List Lv} {v:Value} {w:World} (hB:B.le Bo) (h:MyL B Bo l v w):LL B l v w:=by
 obtain ⟨hs,h1,h2⟩:=h
 exact (h2.lvs hB).ll h1
theorem Mine.cons {B:Bs} {Bo:Nat} {x:Lv} {y:Hw} {L:List Lv} {ms:List Hw} {w:World} (h:Mine B Bo (x :: L) (y :: ms) w):(y.1=x.1∧OwnO B Bo x.2 (hv y) w)∧Mine B Bo L ms w∧∀ z∈ms,∀ g,(hv y).ownBlock=some g→(hv z).ownBlock≠some g :=
 ⟨h.own 0 x y rfl rfl,⟨by have:=h.len;simpa using this,fun i a b ha hb=>h.own (i+1) a b (by simpa using ha) (by simpa using hb),fun i j a b g hij ha hb=>h.apart (i+1) (j+1) a b g (by omega) (by simpa using ha) (by simpa using hb)⟩,fun z hz g hg=>by
  obtain ⟨j,hj,rfl⟩:=List.getElem_of_mem hz
  exact h.apart 0 (j+1) y _ g (by omega) rfl (by simp [List.getElem?_eq_getElem hj]) hg⟩
theorem Mine.cons' {B:Bs} {Bo:Nat} {x:Lv} {y:Hw} {L:List Lv} {ms:List Hw} {w:World} (h1:y.1=x.1∧OwnO B Bo x.2 (hv y) w) (h2:Mine B Bo L ms w) (h3:∀ z∈ms,∀ g,(hv y).ownBlock=some g→(hv z).ownBlock≠some g):Mine B Bo (x :: L) (y :: ms) w :=
 ⟨by have:=h2.len;simp [this],fun i a b ha hb=>by
  cases i with
  | zero =>
   simp at ha hb;subst ha;subst hb;exact h1
  | succ i=>exact h2.own i a b (by simpa using ha) (by simpa using hb),fun i j a b g hij ha hb hg=>by
  cases j with
  | zero=>omega
  | succ j =>
   have hb':ms[j]?=some b:=by simpa using hb
   cases i with
   | zero =>
    simp at ha;subst ha
    exact h3 b (List.mem_of_getElem? hb') g hg
   | succ i=>exact h2.apart i j a b g (by omega) (by simpa using ha) hb' hg⟩
theorem Mine.filter {B:Bs} {Bo:Nat} {w:World} (hB:B.le Bo):∀ {L:List Lv} {ms:List Hw},Mine B Bo L ms w→Mine B Bo (L.filter neL) (ms.filter full) w
 | [],ms,h=>by
  obtain rfl:ms=[]:=List.length_eq_zero_iff.1 h.len
  exact Mine.nil _ _ _
 | x :: L,[],h=>by have:=h.len;simp at this
 | x :: L,y :: ms,h=>by
  obtain ⟨h1,h2,h3⟩:=h.cons
  have hf:=(full_ne (h1.2.is (by decide) hB)).1
  have ih:=Mine.filter hB h2
  rw [List.filter_cons,List.filter_cons,hf]
  cases neL x
  ·exact ih
  ·exact Mine.cons' h1 ih fun z hz=>h3 z (List.mem_filter.1 hz).1
theorem delAtM {B:Bs} {Bo g2 cap:Nat} {L:List Lv} {ys:List Hw} {W W':World} (hB:B.le Bo) (hM:Mine B Bo L ys W) {i k:Nat} {x:Lv} {y:Hw} (hx:L[i]?=some x) (hy:ys[i]?=some y) (hg:hv y=.slice (some ⟨g2,0,none⟩) (k+1) cap) (hBg:Bo≤g2) (hcap:cap≤maxLen)
  {os:List Od} (hr:RowO g2 cap os W') (hlen:os.length=k) (hgr:W.grownBy W' (some g2)) {G C:Nat} (hrow:RowF G C ys W') (hG:Bo≤G) :
  Mine B Bo (L.set i (x.1,os)) (ys.set i (y.1,some ⟨g2,0,none⟩,k,cap)) (W'.setCell ⟨G,i*2+1,none⟩ (.slice (some ⟨g2,0,none⟩) k cap))∧RowF G C (ys.set i (y.1,some ⟨g2,0,none⟩,k,cap)) (W'.setCell ⟨G,i*2+1,none⟩ (.slice (some ⟨g2,0,none⟩) k cap)):=by
 have hset:=hrow.setCell (i:=i) (j:=1) (x:=y) (y:=(y.1,some ⟨g2,0,none⟩,k,cap)) (u:=.slice (some ⟨g2,0,none⟩) k cap) hy (by decide) rfl
 have hgr2:=setCell_grown W' G (i*2+1) (.slice (some ⟨g2,0,none⟩) k cap)
 have hk2:Keeps B [74] W' (W'.setCell ⟨G,i*2+1,none⟩ (.slice (some ⟨g2,0,none⟩) k cap)):=hrow.keeps (by have:=hB.1;omega) (by decide) hgr2
 have hyo:(hv y).ownBlock=some g2:=by rw [hg];rfl
 have hold:∀ (j:Nat) (z:Hw),(ys.set i (y.1,some ⟨g2,0,none⟩,k,cap))[j]?=some z→∃ z',ys[j]?=some z'∧(hv z').ownBlock=(hv z).ownBlock:=fun j z hz=>by
  by_cases e:i=j
  ·subst e
   have hiy:i<ys.length:=(List.getElem?_eq_some_iff.1 hy).1
   rw [List.getElem?_set_self hiy] at hz
   obtain rfl:=Option.some.inj hz
   exact ⟨y,hy,hyo⟩
  ·rw [List.getElem?_set_ne e] at hz
   exact ⟨z,hz,rfl⟩
 refine ⟨⟨by rw [List.length_set,List.length_set,hM.len],fun j u z hu hz=>?_,fun a b u z q hab hu hz hq=>?_⟩,hset⟩
 ·by_cases e:i=j
  ·subst e
   have hil:i<L.length:=(List.getElem?_eq_some_iff.1 hx).1
   have hiy:i<ys.length:=(List.getElem?_eq_some_iff.1 hy).1
   rw [List.getElem?_set_self hil] at hu
   rw [List.getElem?_set_self hiy] at hz
   obtain rfl:=Option.some.inj hu
   obtain rfl:=Option.some.inj hz
   have ho:OwnO B Bo os (.slice (some ⟨g2,0,none⟩) os.length cap) W':=hr.own hBg hcap
   rw [hlen] at ho
   exact ⟨(hM.own i x y hx hy).1,Own.keep hB ho hk2⟩
  ·rw [List.getElem?_set_ne e] at hu hz
   obtain ⟨h1,h2⟩:=hM.own j u z hu hz
   refine ⟨h1,Own.keep hB (ownO_grown h2 hgr fun g hg1 hg2=>?_) hk2⟩
   obtain rfl:g2=g:=Option.some.inj hg2
   rcases Nat.lt_or_gt_of_ne e with hi | hi
   ·exact hM.apart i j y z g2 hi hy hz hyo hg1
   ·exact hM.apart j i z y g2 hi hz hy hg1 hyo
 ·obtain ⟨u',hu',e1⟩:=hold a u hu
  obtain ⟨z',hz',e2⟩:=hold b z hz
  rw [← e2]
  exact hM.apart a b u' z' q hab hu' hz' (e1.trans hq)
def DelP (g cap k i:Nat) (os:List Od) (w:World) (e:Ending) (w':World):Prop:=e=.returned (.slice (some ⟨g,0,none⟩) k cap)∧RowO g cap (os.take i++os.drop (i+1)) w'∧w.grownBy w' (some g)
theorem delete_any (g cap k i:Nat) (os:List Od) (w:World) (hrow:RowO g cap os w) (hl:os.length=k+1) (hi:i<k+1) (hm:k<1000000) (hc:Hid (cap≤maxLen)) :
  Calls Tryz.prog 213 #[.slice (some ⟨g,0,none⟩) (k+1) cap,.int .i64 i,.int .i64 ((i:Int)+1)] w (DelP g cap k i os w):=by
 have hle:=hrow.le
 rw [hl] at hle
 have HR:=lH hrow
 have hdl:(os.drop (i+1)).length=k - i:=by rw [List.length_drop,hl];omega
 obtain ⟨ad,had,hsl⟩:∃ ad:Addr,(∀ u,Below w.heap.size w u→∀ j x,(((os.drop (i+1)).map fO.f).flatten)[j]?=some x→u.cell? (ad.add j)=some x)∧(if cap=i+1 then some (⟨g,0,none⟩:Addr) else some ⟨g,(i+1)*5,none⟩)=some ad:=by
  by_cases e:cap=i+1
  ·refine ⟨⟨g,0,none⟩,fun u _ j x hx=>?_,by rw [if_pos e]⟩
   have:os.drop (i+1)=[]:=List.drop_of_length_le (by omega)
   rw [this] at hx;simp at hx
  ·exact ⟨⟨g,(i+1)*5,none⟩,fun u hu=>(hrow.stays hu).cells (i+1),by rw [if_neg e]⟩
 have HA:Hid (∀ u,Below w.heap.size w u→∃ w',appRun Tryz.prog 71 71 (.slice (some ⟨g,0,none⟩) i cap) (.slice (some ad) (k - i) (cap - (i+1))) u=.ok (.slice (some ⟨g,0,none⟩) k cap) w'∧RowO g cap (os.take i++os.drop (i+1)) w'∧w.grownBy w' (some g)):=lH fun u hu=>by
  obtain ⟨w',h1,h2,h3⟩:=Row.append elemO 71 (HR.out.stays hu) (n:=i) (ys:=os.drop (i+1)) (by omega) (by omega) ad (cap - (i+1)) (had u hu)
  have e2:i+(os.drop (i+1)).length=k:=by omega
  rw [e2] at h1
  rw [hdl] at h1
  have h4:=h2.take k
  rw [List.take_append_of_le_length (by rw [List.length_append,List.length_take,hdl,hl];omega),List.take_of_length_le (by rw [List.length_append,List.length_take,hdl,hl];omega)] at h4
  exact ⟨w',h1,h4,grown_trans (grown_below _ hu) h3⟩
 have HC:Hid (∀ u,RowO g cap (os.take i++os.drop (i+1)) u→w.grownBy u (some g)→∃ w',clearRun Tryz.prog 71 0 (.slice (some ⟨g,k*5,none⟩) 1 (cap - k)) u=.ok (.tuple #[]) w'∧RowO g cap (os.take i++os.drop (i+1)) w'∧w.grownBy w' (some g)):=lH fun u hu hg=>by
  obtain ⟨w',h1,h2,h3⟩:=Row.clear elemO 0 zero5 (x0:=((0,0,0,0,0):Od)) rfl hu (o:=k) (m:=1) (c:=cap - k) (by rw [List.length_append,List.length_take,hdl,hl];omega) (by omega) (by omega)
  exact ⟨w',h1,h2,grown_trans hg h3⟩
 have hd1:((i:Int)==(i:Int)+1)=false:=by simp;omega
 have k1:(i:Int)<(k:Int)+1:=by omega
 have k2:(i:Int)≤(k:Int)+1:=by omega
 have k3:(i:Int)≤k:=by omega
 have k4:(i:Int)+1≤cap:=by omega
 have k5:(k:Int)+1≤cap:=by omega
 have k6:(i:Int)≤cap:=by omega
 have k7:¬ cap=i:=by omega
 have k8:¬ cap=k:=by omega
 have k9:(k:Int)≤cap:=by omega
 have k10:((i:Int)+1).toNat=i+1:=by omega
 have k11:(0:Int)≤(i:Int)+1:=by omega
 have k12:((k:Int)+1).toNat=k+1:=by omega
 have k13:(0:Int)≤(k:Int)+1:=by omega
 clear hrow had hdl hle hl
 go_enter Tryz.func213,Tryz.ntmps213
 go_wp2
 refine Rh.rg (fun _=>True) (fun u=>Below w.heap.size w u) (fun _ _ _ _=>trivial) (fun _ _ h k=>nx h k) (trivial) ((Below.refl _ _).drew) [0,1,2,3,4,5,6,7] ?_
 repeat (first | (refine Rh.Steps.sk ?_;simp only [Act.put,sA,sB,sC]) | (refine Rh.Steps.pu (v:=?_) ?_ ?_;rotate_left;(intro w_ hS_;skip;go_simp<;>with_reducible rfl);simp only [Act.put,sA,sB,sC]))
 refine Rh.Steps.forced (i:=6) (by kernel_rfl) ?_
 refine Rh.One.new (fun v u=>v=.slice (some ⟨g,0,none⟩) k cap∧RowO g cap (os.take i++os.drop (i+1)) u∧w.grownBy u (some g)) (fun v _ _ h k=>⟨h.1,h.2.1.stays k,grown_stays _ _ _ _ h.2.2 k⟩) (by rfl) (by rfl) ?_ ?_
 ·intro w_ hS_ hG_
  obtain ⟨w',h1,h2,h3⟩:=HA.out w_ hG_
  refine ⟨_,w',?_,trivial,rfl,h2,h3⟩
  go_simp
 rintro v4 u5 ⟨rfl,hv4⟩
 simp only [Act.put,sA,sB,sC]
 refine Rh.Steps.pu (v:=?_) ?_ ?_
 rotate_left
 ·intro w_ hS_
  go_simp<;>with_reducible rfl
 simp only [Act.put,List.setIfInBounds_toArray,List.set_cons_zero]
 refine Rh.Steps.nil (by kernel_rfl) ?_
 intro w4 _ hG4
 obtain ⟨w5,hrun,hr5,hg5⟩:=HC.out w4 hG4.2.1 hG4.2.2
 have HZ:=lH (show DelP g cap k i os w (.returned (.slice (some ⟨g,0,none⟩) k cap)) w5 from ⟨rfl,hr5,hg5⟩)
 clear hr5 hg5 hG4
 go_wp2
 go_ret
 exact HZ.out
theorem alt_grown {X:Nat→Prop} {w w':World} {g:Nat} (h:w.grownBy w' (some g)) (hX:X g):Alt X w w' :=
 ⟨h.os,h.tape,h.output,h.size,fun b hb hx=>h.block b hb fun e=>hx (by injection e with e;rw [e];exact hX)⟩
theorem rows_apart {g c g2 c2:Nat} {hs:List Hw} {os:List Od} {u:World} (h:RowF g c hs u) (k:RowO g2 c2 os u):g≠g2:=by
 rintro rfl
 obtain ⟨cur,h1,_⟩:=h.ex
 obtain ⟨cur2,h2,_⟩:=k.ex
 rw [h1] at h2
 simp at h2
structure Lv9 (B:Bs) (Bo g n a0:Nat) (L:List Lv) (hs:List Hw) (r:Option Od) (w u:World):Prop where
 row:RowF g n hs u
 len:n=hs.length
 lvs:Mine B Bo L hs u
 bd:∀ y∈hs,y.2.2.1≤1000000
 v1:Var a0 none u
 v2:Var (a0+1) r u
 low:Below w.heap.size w u
theorem Lv9.stays {B:Bs} {Bo g n a0:Nat} {L:List Lv} {hs:List Hw} {r:Option Od} {w u u':World} (h:Lv9 B Bo g n a0 L hs r w u) (hw:w.heap.size≤u.heap.size) (hb:Below u.heap.size u u'):Lv9 B Bo g n a0 L hs r w u' :=
 ⟨h.row.stays hb,h.len,h.lvs.stays hb,h.bd,h.v1.stays hb,h.v2.stays hb,h.low.trans (hb.mono hw)⟩
theorem Lv9.done {B:Bs} {Bo g n a0:Nat} {L:List Lv} {hs:List Hw} {r:Option Od} {w u u':World} (hB:B.le Bo) (hG:Bo≤g) (hgw:w.heap.size≤g) (hn:n≤1000000) (ha:a0≠g) (h:Lv9 B Bo g n a0 L hs r w u) (hw:w.heap.size≤u.heap.size) (hr:RowF g n (hs.filter full) u') (hg:u.grownBy u' (some g)) :
  MyL B Bo (L.filter neL) (.slice (some ⟨g,0,none⟩) (hs.filter full).length n) u'∧Var a0 none u'∧Below w.heap.size w u':=by
 have hk:Keeps B [74] u u':=h.row.keeps (by have:=hB.1;omega) (by decide) hg
 refine ⟨⟨_,?_,(Mine.filter hB h.lvs).keep hB hk⟩,h.v1.same (hg.block _ h.v1.lt (by simpa using ha)),h.low.grown hg hw (fun k hk=>by injection hk with e;omega)⟩
 exact (Row.own (B:=B) (e:=fF) hr hG (by unfold maxLen;omega)).is (by decide) hB
theorem remove_own (B:Bs) (l:List Lv) (v:Value) (id:Int) (w:World) (h:LL B l v w) (hB:B.le w.heap.size) (hm:l.length≤1000000) (hf:(flat l).length≤1000000) :
  Calls Tryz.prog 192 #[v,.int .i64 id] w (Post3 (MyL B w.heap.size (rem l id)) (fnd (flat l) id) w):=by
 obtain ⟨B',hB'⟩:∃ B',B'=B.but (fun b=>b=w.heap.size∨b=w.heap.size+1):=⟨_,rfl⟩
 have hup:B'.sub B:=by rw [hB'];exact Bs.sub_but _ _
 have hex:∀ b,b=w.heap.size∨b=w.heap.size+1→B'.ex b∧B'.lo≤b:=by
  intro b hb
  rw [hB']
  exact ⟨.inr hb,by show B.lo≤b;have:=hB.1;omega⟩
 have hle':∀ n,w.heap.size+2≤n→B'.le n:=by
  intro n hn
  rw [hB']
  exact Bs.but_le (hB.mono (by omega)) (fun b hb=>by omega)
 have h0:LL B' l v w:=by rw [hB'];exact Is.now eL 106 h (fun b hb=>by omega)
 obtain ⟨W,hW⟩:∃ W,W=(w.alloc (.cells #[.int .i64 0,.int .i64 0,.int .i64 0,.int .i64 0,.int .i64 0] 74)).alloc (.cells #[.int .i64 0,.int .i64 0,.int .i64 0,.int .i64 0,.int .i64 0] 74):=⟨_,rfl⟩
 have hbW:Below w.heap.size w W:=hW ▸ below2 w _ _
 have hzW:W.heap.size=w.heap.size+2:=by rw [hW];simp
 have hv1:Var w.heap.size none W:=by rw [hW];exact (Var.made w).stays (below1 _ _)
 have hv2:Var (w.heap.size+1) none W:=by
  have:=Var.made (w.alloc (.cells #[.int .i64 0,.int .i64 0,.int .i64 0,.int .i64 0,.int .i64 0] 74))
  rw [World.size_alloc] at this
  rw [hW];exact this
 have HV1:=lH hv1
 have HV2:=lH hv2
 have HEx:=lH hex
 have HUp:=lH hup
 have HLW:Hid (LL B' l v W):=lH (Is.stays eL 106 h0 hbW)
 have HB2:Hid (B'.le W.heap.size):=lH (hle' _ (by omega))
 have HW:=lH hW
 have HFl:=lH hf
 obtain ⟨n,hn⟩:∃ n,n=l.length:=⟨_,rfl⟩
 obtain ⟨rr,hrr⟩:∃ r,fnd (flat l) id=r:=⟨_,rfl⟩
 obtain ⟨Lr,hLr⟩:∃ L,rem l id=L:=⟨_,rfl⟩
 have HRr:=lH hrr
 have HLr:=lH hLr
 rw [hrr,hLr]
 have HN:=lH hn
 clear h h0 hB hB' hup hex hle' hW hv1 hv2 hrr hLr
 go_enter Tryz.func192,Tryz.ntmps192
 go_wp2_with fail
 rw [← HW.out]
 refine (cloned_any B' l v W HLW.out HB2.out hm hf).mono ?_
 rintro e w6 ⟨_,rfl,hb6,g,hs,rfl,hg5,hhl,hrow,hmine⟩
 have hbw6:=nx hbW hb6
 have HRo:=lH hrow
 have HMi:=lH hmine
 have HHl:=lH hhl
 rw [← hn] at hm ⊢
 clear hrow hmine hhl hn hf
 go_wp2
 go_loopw [8,18] (fun d i wr=>∃ k:Nat,k≤n∧i=.int .i64 k∧d=.bool false∧Below w6.heap.size w6 wr∧NoId id l k) (fun _ i _=>n - (intOf i).toNat)
 case atStart=>exact ⟨0,Nat.zero_le _,rfl,rfl,Below.refl _ _,by intro v hv;simp at hv⟩
 case round =>
  obtain ⟨k,hk,rfl,rfl,hb,hno⟩:=hrel
  have HNo:=lH hno
  clear hno
  have hbw:=nx hbw6 hb
  by_cases hlt:k<n
  ·have hlt2:(k:Int)<n:=by omega
   have hkl:k<l.length:=by rw [← HN.out];exact hlt
   have hkh:k<hs.length:=by rw [HHl.out];exact hkl
   have hrw:=HRo.out.stays hb
   have hmw:=HMi.out.stays hb
   have hgz:=hrw.lt
   obtain ⟨⟨yp,ya,yn,yc⟩,hy⟩:∃ y,hs[k]'hkh=y:=⟨_,rfl⟩
   have hgx:l[k]?=some (l[k]'hkl):=List.getElem?_eq_getElem hkl
   have hgy:hs[k]?=some (yp,ya,yn,yc):=by rw [← hy];exact List.getElem?_eq_getElem hkh
   obtain ⟨q0,q1,_,_⟩:=rowF_at hrw hgy
   simp only [hv] at q1
   obtain ⟨hyp,hown⟩:=hmw.own k _ _ hgx hgy
   have hosl:(l[k]'hkl).2.length≤1000000:=by
    have h1:=flat_take_le l (k+1)
    rw [flat_take_snoc hkl,List.length_append] at h1
    have:=HFl.out;omega
   have HO:=lH hown
   have HGy:=lH hgy
   have HRw:=lH hrw
   have HMw:=lH hmw
   have HYp:=lH hyp
   clear hy hgx hgy hrw hmw hown hyp
   obtain ⟨V,hV⟩:∃ V,V=wr.alloc (.cells #[.int .i64 yp,.slice ya yn yc] 106):=⟨_,rfl⟩
   have hbV:Below wr.heap.size wr V:=hV ▸ below1 wr _
   have hzV:wr.heap.size<V.heap.size:=by rw [hV];simp
   have hF:∀ u,Below V.heap.size V u→u.cell? ⟨wr.heap.size,1,none⟩=some (.slice ya yn yc)∧wr.heap.size<u.heap.size:=fun u hu=>by
    refine ⟨?_,Nat.lt_of_lt_of_le hzV hu.size⟩
    rw [hu.cell (p:=⟨wr.heap.size,1,none⟩) hzV,hV];simp [go_sem]
   have HFv:=lH hF
   have HV:=lH hV
   have HX:Hid (OL B' (l[k]'hkl).2 (.slice ya yn yc) V):=lH ((HO.out.stays hbV).is (by decide) HB2.out)
   clear hF hV
   obtain ⟨q,hq⟩:∃ q,ixD id (l[k]'hkl).2 0=q:=⟨_,rfl⟩
   have HQ:=lH hq
   clear hq
   rcases ixD_spec id (l[k]'hkl).2 0 with ⟨e1,e2⟩ | ⟨a,ha,e1,e2,e3⟩
   ·have HZ:=lH (HNo.out.snoc hkl e2)
    rw [HQ.out] at e1
    subst e1
    clear e2
    go_wp2_with fail
    rw [← HV.out]
    refine (indexOf_is HQ HX.out hosl).mono ?_
    rintro e w2 ⟨rfl,hb1⟩
    go_wp2
    go_roundw
    case rel=>exact ⟨k+1,by omega,by go_num,rfl,nx hb (nx hbV hb1),HZ.out⟩
    case measure=>simp [intOf];omega
   ·obtain ⟨g2,cap,hgv,hBg,hcap,hro⟩:=rowO_of HO.out ha
    simp only [hv,Value.slice.injEq] at hgv
    obtain ⟨rfl,hyn,rfl⟩:=hgv
    obtain ⟨kk,hkk⟩:∃ kk,(l[k]'hkl).2.length=kk+1:=⟨(l[k]'hkl).2.length - 1,by omega⟩
    rw [hkk] at hyn
    subst hyn
    rw [HQ.out,Nat.zero_add] at e1
    subst e1
    obtain ⟨hre,hfe⟩:=remL_at hkl ha HNo.out e2 e3
    have HC2:Hid (yc≤maxLen):=lH hcap
    have HKk:=lH hkk
    have HRO:=lH hro
    have hne:=rows_apart HRw.out hro
    have hakk:a<kk+1:=by omega
    have hakk2:(a:Int)<(kk:Int)+1:=by omega
    have hkk6:kk<1000000:=by omega
    obtain ⟨⟨o1,o2,o3,o4,o5⟩,ho⟩:∃ o,(l[k]'hkl).2[a]'ha=o:=⟨_,rfl⟩
    have hgo:(l[k]'hkl).2[a]?=some (o1,o2,o3,o4,o5):=by rw [← ho];exact List.getElem?_eq_getElem ha
    rw [ho] at hfe
    have HRr2:Hid (rr=some (o1,o2,o3,o4,o5)):=lH (by rw [← HRr.out];exact hfe)
    have HLe:Hid ((l.set k ((l[k]'hkl).1,(l[k]'hkl).2.take a++(l[k]'hkl).2.drop (a+1))).filter neL=Lr):=lH (by rw [← HLr.out];exact hre.symm)
    have HGo:=lH hgo
    clear hre hfe hcap hkk hro ho hgo e2 e3
    go_wp2_with fail
    rw [← HV.out]
    refine (indexOf_is HQ HX.out hosl).mono ?_
    rintro e w2 ⟨rfl,hb1⟩
    have hb3:=nx hbV hb1
    have hbw2:=nx hbw hb3
    obtain ⟨k0,k1⟩:=HFv.out _ hb1
    obtain ⟨s0,s1,s2,s3,s4⟩:=rowO_at (HRO.out.stays hb3) HGo.out
    have hpl:=(HV2.out.stays (nx (nx hb6 hb) hb3)).plain
    have hplt:=(HV2.out.stays (nx (nx hb6 hb) hb3)).lt
    have hg2l:=(HRO.out.stays hb3).lt
    have hne2:wr.heap.size≠w.heap.size+1:=by have:=hbw6.size;have:=hb6.size;have:=hb.size;omega
    obtain ⟨w3,hw3⟩:∃ w3,w3=w2.setRow (w.heap.size+1) #[.int .i64 o1,.int .i64 o2,.int .i64 o3,.int .i64 o4,.int .i64 o5]:=⟨_,rfl⟩
    have hoth:∀ b,b≠w.heap.size+1→w3.heap[b]?=w2.heap[b]?:=fun b hb=>by rw [hw3];exact setRow_other _ _ _ _ hb
    have halt:Alt (fun b=>b=w.heap.size+1) w2 w3:=by rw [hw3];exact alt_setRow (Alt.refl (fun b=>b=w.heap.size+1) w2) (b:=w.heap.size+1) rfl _
    have hz3:w3.heap.size=w2.heap.size:=by rw [hw3];exact setRow_size _ _ _
    have hv23:Var (w.heap.size+1) (some (o1,o2,o3,o4,o5)) w3:=by rw [hw3];exact (HV2.out.stays (nx (nx hb6 hb) hb3)).set (some (o1,o2,o3,o4,o5))
    have hv13:Var w.heap.size none w3:=(HV1.out.stays (nx (nx hb6 hb) hb3)).same (hoth _ (by omega))
    have hk3:Keeps B' [106,74] w2 w3:=Keeps.of_alt halt (fun b hb _=>HEx.out b (.inr hb))
    have hM3:Mine B' W.heap.size l hs w3:=(HMw.out.stays hb3).keep HB2.out (hk3.less (by simp))
    have hR3:RowF g n hs w3:=by rw [HN.out];exact (HRw.out.stays hb3).block (hoth _ (by omega))
    have hO3:RowO g2 yc (l[k]'hkl).2 w3:=(HRO.out.stays hb3).block (hoth _ (by omega))
    have hlow3:Below w.heap.size w w3:=by rw [hw3];exact below_setRow hbw2 (by omega) _
    have kS:(w2.setRow (w.heap.size+1) #[.int .i64 o1,.int .i64 o2,.int .i64 o3,.int .i64 o4,.int .i64 o5]).cell? ⟨wr.heap.size,1,none⟩=some (.slice (some ⟨g2,0,none⟩) (kk+1) yc):=by
     rw [← hw3]
     exact (World.cell?_of_block (w:=w2) (hoth _ hne2)).trans k0
    have HK3:=lH (show _∧_∧_∧_∧_∧_ from ⟨hv23,hv13,hM3,hR3,hO3,hlow3⟩)
    have HW3:=lH hw3
    have hz3':w.heap.size+2≤w3.heap.size:=by have:=hv23.lt;have:=hbw2.size;have:=hb6.size;omega
    clear hw3 hoth halt hk3 hv23 hv13 hM3 hR3 hO3 hlow3
    go_wp2_with fail
    rw [← HW3.out]
    refine (delete_any g2 yc kk a (l[k]'hkl).2 w3 HK3.out.2.2.2.2.1 HKk.out hakk hkk6 HC2).mono ?_
    rintro e w4 ⟨rfl,hr4,hg4⟩
    obtain ⟨hv23,hv13,hM3,hR3,hO3,hlow3⟩:=HK3.out
    have hR4:=hR3.apart hg4 hne
    have hgx:l[k]?=some (l[k]'hkl):=List.getElem?_eq_getElem hkl
    have hlen4:((l[k]'hkl).2.take a++(l[k]'hkl).2.drop (a+1)).length=kk:=by rw [List.length_append,List.length_take,List.length_drop,HKk.out];omega
    obtain ⟨hlv5,hr5⟩:=delAtM HB2.out hM3 hgx HGy.out rfl hBg HC2.out hr4 hlen4 hg4 hR4 hg5
    obtain ⟨_,c1,_,f1⟩:=rowF_at hR4 HGy.out
    simp only [hv] at c1
    have hgr5:=setCell_grown w4 g (k*2+1) (.slice (some ⟨g2,0,none⟩) kk yc)
    have hlow4:Below w.heap.size w w4:=hlow3.grown hg4 (by omega) (fun k hk=>by injection hk with e;omega)
    have hbd5:∀ y∈hs.set k (yp,some ⟨g2,0,none⟩,kk,yc),y.2.2.1≤1000000:=by
     intro y hy
     rcases List.mem_or_eq_of_mem_set hy with h | h
     ·exact ((hM3.lvs HB2.out).bd HFl.out) y h
     ·rw [h];simp only;omega
    have hn1:∀ b,b≠g→b≠g2→b<w3.heap.size→(w4.setCell ⟨g,k*2+1,none⟩ (.slice (some ⟨g2,0,none⟩) kk yc)).heap[b]?=w3.heap[b]?:=fun b h1 h2 hb =>
     (hgr5.block b (Nat.lt_of_lt_of_le hb hg4.size) (by simpa using h1)).trans (hg4.block b hb (by simpa using h2))
    have HL9:Hid (Lv9 B' W.heap.size g n w.heap.size (l.set k ((l[k]'hkl).1,(l[k]'hkl).2.take a++(l[k]'hkl).2.drop (a+1))) (hs.set k (yp,some ⟨g2,0,none⟩,kk,yc)) rr w (w4.setCell ⟨g,k*2+1,none⟩ (.slice (some ⟨g2,0,none⟩) kk yc))) :=
     lH ⟨hr5,by rw [List.length_set,HHl.out];exact HN.out,hlv5,hbd5,hv13.same (hn1 _ (by omega) (by omega) hv13.lt),by rw [HRr2.out];exact hv23.same (hn1 _ (by omega) (by omega) hv23.lt),hlow4.setCell (by show w.heap.size≤g;omega) _⟩
    have HRe:Hid (rr.isSome=true):=lH (by rw [HRr2.out];rfl)
    obtain ⟨We,hWe⟩:∃ x,x=w4.setCell ⟨g,k*2+1,none⟩ (.slice (some ⟨g2,0,none⟩) kk yc):=⟨_,rfl⟩
    have HWe:=lH hWe
    have hzw:w.heap.size≤We.heap.size:=by rw [hWe];exact (hlow4.setCell (by show w.heap.size≤g;omega) _:Below w.heap.size w _).size
    rw [← hWe] at HL9
    obtain ⟨hs9,hhs9⟩:∃ x,x=hs.set k (yp,some ⟨g2,0,none⟩,kk,yc):=⟨_,rfl⟩
    rw [← hhs9] at HL9
    have hg4z:=hR4.lt
    have hgzI:(k:Int)<n:=by omega
    clear hWe hhs9 hv23 hv13 hM3 hR3 hO3 hlow3 hR4 hlv5 hr5 hgr5 hlow4 hbd5 hn1 hr4 hg4 hgx hlen4
    have hg0:w.heap.size+2≤g:=by omega
    have hcs:=cO_size rr
    have h1c:oneAll (.agg (cO rr))=true:=by cases rr<;>exact one5 _ _ _ _ _
    have hF:∀ u,Alt (fun b=>b=g∨b=w.heap.size) We u→row u (w.heap.size+1)=cO rr:=fun u hu=>by
     have hv2:=HL9.out.v2
     exact (hv2.same (hu.block _ hv2.lt (by omega))).row
    go_wp2
    rw [← HWe.out]
    refine Rh.rg (fun u=>Alt (fun b=>b=g∨b=w.heap.size) We u) (fun u=>Below We.heap.size We u) (fun _ _ h k=>h.trans (Alt.of_below k)) (fun _ _ h k=>nx h k) (Alt.of_below (Below.refl _ _).drew) ((Below.refl _ _).drew) [0,2,3,1,4,5,6] ?_
    repeat (first | (refine Rh.Steps.sk ?_;simp only [Act.put,sA,sB,sC]) | (refine Rh.Steps.pu (v:=?_) ?_ ?_;rotate_left;(intro w_ hS_;have hk_:=hF w_ hS_;go_simp<;>with_reducible rfl);simp only [Act.put,sA,sB,sC]))
    refine Rh.Steps.forced (i:=1) (by kernel_rfl) ?_
    refine Rh.One.callw (fun v u=>v=.slice (some ⟨g,0,none⟩) (hs9.filter full).length n∧MyL B' W.heap.size Lr v u∧Var w.heap.size none u∧Below w.heap.size w u) (fun v _ _ h k=>⟨h.1,h.2.1.stays k,h.2.2.1.stays k,nx h.2.2.2 k⟩) (f:=?_) (args:=?_) (by rfl) (by rfl) ?_ ?_ ?_
    rotate_left 2
    ·intro w_ hS_ hG_;go_simp<;>first | with_reducible rfl | (constructor<;>with_reducible rfl)
    ·intro w_ hS_ hG_
     have h9:=HL9.out.stays hzw hG_
     go_at_call 214
     refine (deleteFunc_any g n hs9 w_ h9.row h9.len hm h9.bd).mono ?_
     rintro e w' ⟨rfl,hr',hg'⟩
     obtain ⟨k1,k2,k3⟩:=Lv9.done HB2.out hg5 (by omega) hm (by omega) h9 (Nat.le_trans hzw hG_.size) hr' hg'
     exact ⟨_,rfl,hS_.trans (alt_grown hg' (.inl rfl)),rfl,by rw [← HLe.out];exact k1,k2,k3⟩
    rintro v4 u5 ⟨rfl,hv4⟩
    simp only [Act.put,sA,sB,sC]
    repeat (first | (refine Rh.Steps.sk ?_;simp only [Act.put,sA,sB,sC]) | (refine Rh.Steps.pu (v:=?_) ?_ ?_;rotate_left;(intro w_ hS_;have hk_:=hF w_ hS_;go_simp<;>with_reducible rfl);simp only [Act.put,sA,sB,sC]))
    refine Rh.Steps.forced (i:=5) (by kernel_rfl) ?_
    refine Rh.One.store (fun u=>MyL B' W.heap.size Lr (.slice (some ⟨g,0,none⟩) (hs9.filter full).length n) u∧Var w.heap.size rr u∧Below w.heap.size w u) (fun _ _ h k=>⟨h.1.stays k,h.2.1.stays k,nx h.2.2 k⟩) (by rfl) (by rfl) ?_ ?_
    ·intro w_ hS_ hG_
     have hpl:=hG_.2.2.1.plain
     have hlt:=hG_.2.2.1.lt
     have ha:=alt_setRow (Alt.refl (fun b=>b=w.heap.size) w_) (b:=w.heap.size) rfl (cO rr)
     refine ⟨w_.setRow w.heap.size (cO rr),?_,alt_setRow hS_ (.inr rfl) _,hG_.2.1.keep HB2.out (Keeps.of_alt ha (fun b hb _=>HEx.out b (.inl hb))),hG_.2.2.1.set rr,below_setRow hG_.2.2.2 (Nat.le_refl _) _⟩
     go_simp
    simp only [Act.put]
    repeat (first | (refine Rh.Steps.sk ?_;simp only [Act.put,sA,sB,sC]) | (refine Rh.Steps.pu (v:=?_) ?_ ?_;rotate_left;(intro w_ hS_;have hk_:=hF w_ hS_;go_simp<;>with_reducible rfl);simp only [Act.put,sA,sB,sC]))
    refine Rh.Steps.nil (by kernel_rfl) ?_
    intro w9 _ hG9
    have HG:=lH hG9
    clear hG9
    go_wp2
    refine bodyPost_ret (v:=.tuple #[.slice (some ⟨g,0,none⟩) (hs9.filter full).length n,.agg (cO rr),.bool true]) (ret_OM Tryz.results192 _ _ hcs ?c2) rfl ⟨_,by rw [HRe.out],HG.out.2.2,HG.out.1.up HUp.out (by omega)⟩
    case c2=>exact HG.out.2.1.row
  ·obtain rfl:k=n:=by omega
   have hnol:=HNo.out
   unfold NoId at hnol
   rw [HN.out,List.take_length] at hnol
   obtain ⟨hre,hfe⟩:=remL_no hnol
   have HL9:Hid (Lv9 B' W.heap.size g k w.heap.size l hs rr w wr):=lH ⟨HRo.out.stays hb |> (HN.out ▸ ·),by rw [HHl.out];exact HN.out,HMi.out.stays hb,((HMi.out.stays hb).lvs HB2.out).bd HFl.out,HV1.out.stays (nx hb6 hb),by rw [← HRr.out,hfe];exact HV2.out.stays (nx hb6 hb),hbw⟩
   have HLe:Hid (l.filter neL=Lr):=lH (by rw [← HLr.out];exact hre.symm)
   have HRe:Hid (rr=none):=lH (by rw [← HRr.out];exact hfe)
   clear hnol hre hfe hlt
   obtain ⟨We,hWe⟩:∃ x,x=wr:=⟨_,rfl⟩
   have hzw:w.heap.size≤We.heap.size:=by rw [hWe];exact hbw.size
   rw [← hWe] at HL9 ⊢
   clear hWe
   have hg0:w.heap.size+2≤g:=by omega
   have hcs:=cO_size rr
   have h1c:oneAll (.agg (cO rr))=true:=by cases rr<;>exact one5 _ _ _ _ _
   have hF:∀ u,Alt (fun b=>b=g∨b=w.heap.size) We u→row u (w.heap.size+1)=cO rr:=fun u hu=>by
    have hv2:=HL9.out.v2
    exact (hv2.same (hu.block _ hv2.lt (by omega))).row
   go_wp2
   refine Rh.rg (fun u=>Alt (fun b=>b=g∨b=w.heap.size) We u) (fun u=>Below We.heap.size We u) (fun _ _ h k=>h.trans (Alt.of_below k)) (fun _ _ h k=>nx h k) (Alt.of_below (Below.refl _ _).drew) ((Below.refl _ _).drew) [0,2,3,1,4,5,6] ?_
   repeat (first | (refine Rh.Steps.sk ?_;simp only [Act.put,sA,sB,sC]) | (refine Rh.Steps.pu (v:=?_) ?_ ?_;rotate_left;(intro w_ hS_;have hk_:=hF w_ hS_;go_simp<;>with_reducible rfl);simp only [Act.put,sA,sB,sC]))
   refine Rh.Steps.forced (i:=1) (by kernel_rfl) ?_
   refine Rh.One.callw (fun v u=>v=.slice (some ⟨g,0,none⟩) (hs.filter full).length k∧MyL B' W.heap.size Lr v u∧Var w.heap.size none u∧Below w.heap.size w u) (fun v _ _ h k=>⟨h.1,h.2.1.stays k,h.2.2.1.stays k,nx h.2.2.2 k⟩) (f:=?_) (args:=?_) (by rfl) (by rfl) ?_ ?_ ?_
   rotate_left 2
   ·intro w_ hS_ hG_;go_simp<;>first | with_reducible rfl | (constructor<;>with_reducible rfl)
   ·intro w_ hS_ hG_
    have h9:=HL9.out.stays hzw hG_
    go_at_call 214
    refine (deleteFunc_any g k hs w_ h9.row h9.len hm h9.bd).mono ?_
    rintro e w' ⟨rfl,hr',hg'⟩
    obtain ⟨k1,k2,k3⟩:=Lv9.done HB2.out hg5 (by omega) hm (by omega) h9 (Nat.le_trans hzw hG_.size) hr' hg'
    exact ⟨_,rfl,hS_.trans (alt_grown hg' (.inl rfl)),rfl,by rw [← HLe.out];exact k1,k2,k3⟩
   rintro v4 u5 ⟨rfl,hv4⟩
   simp only [Act.put,sA,sB,sC]
   repeat (first | (refine Rh.Steps.sk ?_;simp only [Act.put,sA,sB,sC]) | (refine Rh.Steps.pu (v:=?_) ?_ ?_;rotate_left;(intro w_ hS_;have hk_:=hF w_ hS_;go_simp<;>with_reducible rfl);simp only [Act.put,sA,sB,sC]))
   refine Rh.Steps.forced (i:=5) (by kernel_rfl) ?_
   refine Rh.One.store (fun u=>MyL B' W.heap.size Lr (.slice (some ⟨g,0,none⟩) (hs.filter full).length k) u∧Var w.heap.size rr u∧Below w.heap.size w u) (fun _ _ h k=>⟨h.1.stays k,h.2.1.stays k,nx h.2.2 k⟩) (by rfl) (by rfl) ?_ ?_
   ·intro w_ hS_ hG_
    have hpl:=hG_.2.2.1.plain
    have hlt:=hG_.2.2.1.lt
    have ha:=alt_setRow (Alt.refl (fun b=>b=w.heap.size) w_) (b:=w.heap.size) rfl (cO rr)
    refine ⟨w_.setRow w.heap.size (cO rr),?_,alt_setRow hS_ (.inr rfl) _,hG_.2.1.keep HB2.out (Keeps.of_alt ha (fun b hb _=>HEx.out b (.inl hb))),hG_.2.2.1.set rr,below_setRow hG_.2.2.2 (Nat.le_refl _) _⟩
    go_simp
   simp only [Act.put]
   repeat (first | (refine Rh.Steps.sk ?_;simp only [Act.put,sA,sB,sC]) | (refine Rh.Steps.pu (v:=?_) ?_ ?_;rotate_left;(intro w_ hS_;have hk_:=hF w_ hS_;go_simp<;>with_reducible rfl);simp only [Act.put,sA,sB,sC]))
   refine Rh.Steps.nil (by kernel_rfl) ?_
   intro w9 _ hG9
   have HG:=lH hG9
   clear hG9
   go_wp2
   refine bodyPost_ret (v:=.tuple #[.slice (some ⟨g,0,none⟩) (hs.filter full).length k,.agg (cO rr),.bool false]) (ret_OM Tryz.results192 _ _ hcs ?c1) rfl ⟨_,by rw [HRe.out];rfl,HG.out.2.2,HG.out.1.up HUp.out (by omega)⟩
   case c1=>exact HG.out.2.1.row
theorem remove_big (B:Bs) (l:List Lv) (v:Value) (id:Int) (w:World) (h:LL B l v w) (hB:B.le w.heap.size) (hm:l.length≤1000000) (hf:(flat l).length≤1000000) :
  Calls Tryz.prog 192 #[v,.int .i64 id] w (Post3 (LL B (rem l id)) (fnd (flat l) id) w) :=
 (remove_own B l v id w h hB hm hf).mono fun e w' he=>by
  obtain ⟨t,h1,h2,h3⟩:=he
  exact ⟨t,h1,h2,h3.ll hB⟩
end Go.Proofs.YtjhocpcpkemcaaaGreat.Le
