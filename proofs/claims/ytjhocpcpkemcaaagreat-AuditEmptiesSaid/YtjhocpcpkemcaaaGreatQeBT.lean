/- Package lane as it landed: Collect, walked. -/
import Derived.Test.YtjhocpcpkemcaaaGreatQeZZ
import Derived.Test.YtjhocpcpkemcaaaGreatQeBL
set_option linter.unusedVariables false
set_option maxRecDepth 16000
set_option maxHeartbeats 32000000
namespace Go.Proofs.YtjhocpcpkemcaaaGreat.La
open Go.RowKit
open Rw
open Da
open Le
open Bk
open Ro
open Ac (Hd Pu HL pmay pmay_iff tot total giveE giveL takeE takeL)
theorem deleteH_is {B:Bs} {Bo:Nat} {hs:List Hd} {v:Value} {ow:Int} {p:Nat} {w:World} (hB:B.le Bo) (hown:Da.Own eH 52 (Bs.of B.lo) Bo hs v w) (hne:hs≠[]) (hm:hs.length≤1000000) (hpb:p<Bo) (hp:p<w.heap.size) (hc:w.cell? ⟨p,0,none⟩=some (.int .i64 ow)) :
  Calls Tryz.prog 156 #[v,.func (.func 157) #[] #[.pointer (some ⟨p,0,none⟩)]] w fun e w'=>∃ a n c g,e=.returned (.slice a n c)∧Bo≤g∧w.grownBy w' (some g)∧HL B.lo (hs.filter (notOf ow)) (.slice a n c) w':=by
 have hlo:(Bs.of B.lo).le Bo:=⟨hB.1,fun _ h=>h.elim⟩
 rcases Row.ofOwn (e:=fH) (show Da.Own fH.enc 52 (Bs.of B.lo) Bo hs v w from hown) with ⟨_,e⟩ | ⟨g,cap,rfl,hg,hcap,hrow⟩
 ·exact absurd e hne
 refine (deleteH_any g hs.length cap hs ow p w hrow rfl hm (lH hcap) hp (by omega) hc).mono ?_
 rintro e w' ⟨rfl,hr,hgr⟩
 exact ⟨_,_,_,g,rfl,hg,hgr,is_hl ((hr.own (B:=Bs.of B.lo) hg hcap).is (by decide) hlo)⟩
attribute [local go_sem ↓] storeP loadP
attribute [local go_sem] one2 size2
theorem lcollect_any (B:Bs) (l:Ln) (v:Value) (fr:List Hd) (fv:Value) (ow:Int) (w:World) (h:LN B l v w) (hfr:HL B.lo fr fv w) (hB:B.le w.heap.size) (hs:Sm l) (hfm:fr.length≤1000) :
  Calls Tryz.prog 128 #[v,fv,.int .i64 ow] w (PostCo B (collectN l fr ow) w):=by
 have HSm:=lH hs
 obtain ⟨R,hR⟩:∃ R,collectN l fr ow=R:=⟨_,rfl⟩
 have HR:=lH hR
 rw [hR]
 obtain ⟨r,hr⟩:∃ r,(rightN l&&Ac.right fr)=r:=⟨_,rfl⟩
 have HR1:=lH hr
 have hm5:=hs.m5
 clear hR hr
 obtain ⟨lb,lq,⟨bu,se,nn⟩,od⟩:=l
 simp only at hm5
 obtain ⟨a1,n1,c1,a2,n2,c2,a3,n3,c3,rfl,e1,e2,e3,hl1,hl2,hl3⟩:=h.open'
 simp only at e1 e2 e3 hl1 hl2 hl3
 obtain ⟨V,hV⟩:∃ V,V=((w.alloc (.cells (cN lb lq (.slice a1 n1 c1) (.slice a2 n2 c2) nn (.slice a3 n3 c3)) 59)).alloc (.cells #[.int .i64 ow] 3)).alloc (.cells (nilN 0 0 0) 59):=⟨_,rfl⟩
 have hbV:Below w.heap.size w V:=hV ▸ below3 w _ _ _
 have hx0:LB B (lb,lq,(bu,se,nn),od) (.slice a1 n1 c1) (.slice a2 n2 c2) (.slice a3 n3 c3) w.heap.size V:=by rw [hV];exact ((LB.made hl1 hl2 hl3 hB.1).stays (below1 _ _)).stays (below1 _ _)
 have ho0:V.heap[w.heap.size+1]?=some (.cells #[.int .i64 ow] 3 (0,0)):=by
  have:=heap_alloc_new (w.alloc (.cells (cN lb lq (.slice a1 n1 c1) (.slice a2 n2 c2) nn (.slice a3 n3 c3)) 59)) (.cells #[.int .i64 ow] 3)
  rw [World.size_alloc] at this
  rw [hV,Below.heap_alloc _ _ _ (by simp)];exact this
 have hg0:V.heap[w.heap.size+1+1]?=some (.cells (nilN 0 0 0) 59 (0,0)):=by
  have:=heap_alloc_new ((w.alloc (.cells (cN lb lq (.slice a1 n1 c1) (.slice a2 n2 c2) nn (.slice a3 n3 c3)) 59)).alloc (.cells #[.int .i64 ow] 3)) (.cells (nilN 0 0 0) 59)
  rw [World.size_alloc,World.size_alloc] at this
  rw [hV];exact this
 have HB:=lH (show ∀ u,Below w.heap.size w u→B.le u.heap.size from fun u hu=>hB.mono hu.size)
 have HSt0:=lH (show St1 B (lb,lq,(bu,se,nn),od) (.slice a1 n1 c1) (.slice a2 n2 c2) (.slice a3 n3 c3) ow w.heap.size fr fv w V from ⟨hx0,ho0,hg0,hl_stays hfr hbV,hbV⟩)
 obtain ⟨fa,fc,rfl⟩:=hl_slice hfr
 obtain ⟨fn,hfn⟩:∃ fn,fr.length=fn:=⟨_,rfl⟩
 rw [hfn] at HSt0 hfm ⊢
 have HFn:=lH hfn
 have r0:=hx0.row
 simp only at r0
 rw [hV] at r0
 have HV:=lH hV
 clear hx0 ho0 hg0 hl1 hl2 hl3 h hfr hB e1 e2 e3 hV hfn hs
 go_enter Tryz.func128,Tryz.ntmps128
 go_wp2_with fail
 rw [← HV.out]
 refine (areRight_is HR1 HSt0.out.lb.ln HSt0.out.fr (HB.out V hbV) HSm.out (by rw [HFn.out];exact hfm)).mono ?_
 rintro e w1 ⟨rfl,hb1⟩
 have HSt1:=lH (HSt0.out.stays hb1)
 clear r0
 cases r
 ·have HZ:Hid (R=((lb,lq,(bu,se,nn),od),fr,0,0,1)):=lH (by rw [← HR.out];unfold collectN;rw [HR1.out,if_neg (by decide)])
  have hrow:=HSt1.out.lb.row
  simp only at hrow
  have hpl:=HSt1.out.pl
  obtain ⟨z1,z2,z3⟩:=HSt1.out.lt
  go_wp2
  refine bodyPost_ret (v:=.tuple #[.agg (cN lb lq (.slice a1 n1 c1) (.slice a2 n2 c2) nn (.slice a3 n3 c3)),.slice fa fn fc,.int .i64 0,.int .i64 0,.int .i64 1]) (ret_N5 Tryz.results128 _ _ rfl ?c1) rfl ⟨_,_,by rw [HZ.out],?c2⟩
  case c1=>exact row_set _ hpl
  case c2 =>
   rw [HZ.out]
   exact HSt1.out.ret
 have hrr:=HR1.out
 rw [Bool.and_eq_true] at hrr
 have hRN:=rightN_iff.1 hrr.1
 have HRN:=lH hRN
 obtain ⟨x,hx⟩:∃ x,Ac.get od (ow,lb)=x:=⟨_,rfl⟩
 obtain ⟨y,hy⟩:∃ y,Ac.get od (ow,lq)=y:=⟨_,rfl⟩
 have HX:=lH hx
 have HY:=lH hy
 have hP:R=if x=0∧y=0 then ((lb,lq,(bu,se,nn),od),fr,0,0,16) else if giveE fr (ow,lb) x=0 then
   (if giveE (giveL fr (ow,lb) x) (ow,lq) y=0 then ((lb,lq,(bu,se,nn),takeL (takeL od (ow,lb) x) (ow,lq) y),giveL (giveL fr (ow,lb) x) (ow,lq) y,x,y,0) else ((lb,lq,(bu,se,nn),od),fr,0,0,giveE (giveL fr (ow,lb) x) (ow,lq) y)) else ((lb,lq,(bu,se,nn),od),fr,0,0,giveE fr (ow,lb) x):=by
  rw [← HR.out];unfold collectN;rw [HR1.out,if_pos rfl];simp only;rw [hx,hy]
 have HP:=lH hP
 have hrow:=HSt1.out.lb.row
 simp only at hrow
 have z1:=HSt1.out.lt.1
 obtain ⟨M,hM⟩:∃ M,M=w1.alloc (.cells (cN lb lq (.slice a1 n1 c1) (.slice a2 n2 c2) nn (.slice a3 n3 c3)) 137):=⟨_,rfl⟩
 have hbM:Below w1.heap.size w1 M:=hM ▸ below1 w1 _
 have HStM:=lH (HSt1.out.stays hbM)
 have HVB:=lH (show VB B (lb,lq,(bu,se,nn),od) (.slice a1 n1 c1) (.slice a2 n2 c2) (.slice a3 n3 c3) w1.heap.size M from by rw [hM];exact VB.made (l:=(lb,lq,(bu,se,nn),od)) HSt1.out.lb.l1 HSt1.out.lb.l2 HSt1.out.lb.l3 (HB.out w1 HSt1.out.bel).1)
 have HM:=lH hM
 clear hrr hx hy hP hM hRN
 go_upto_region 4 with fail
 rw [← HM.out]
 have hF:∀ u,Below M.heap.size M u→row u w1.heap.size=cN lb lq (.slice a1 n1 c1) (.slice a2 n2 c2) nn (.slice a3 n3 c3)∧u.cell? ⟨w.heap.size+1,0,none⟩=some (.int .i64 ow):=fun u hu=>⟨(HVB.out.stays hu).row,(HStM.out.stays hu).own⟩
 have hnd2:ndA lb lq 2=lb:=if_neg (by decide)
 have hnd1:ndA lb lq 1=lq:=if_pos rfl
 have HNd:=lH (And.intro hnd2 hnd1)
 clear hrow z1 hnd2 hnd1
 go_cut [12,13] (fun p q u=>AtB 50 #[.int .i64 ow,.int .i64 lb] M.heap.size p u∧AtB 50 #[.int .i64 ow,.int .i64 lq] M.heap.size q u∧Below M.heap.size M u)
 case first =>
  as_aux_lemma =>
   refine Rh.rb [0,1,3,4,2,5,6,7,8,9] ?_
   repeat (first | (refine Rh.Steps.sk ?_;simp only [Act.put,sA,sB,sC]) | (refine Rh.Steps.pu (v:=?_) ?_ ?_;rotate_left;(intro w_ hS_;have hk_:=hF w_ hS_;go_simp<;>with_reducible rfl);simp only [Act.put,sA,sB,sC]) | (refine Rh.Steps.ca (v:=?_) (f:=?_) (args:=?_) ?_ ?_ ?_;rotate_left 3;(intro w_ hS_;have hk_:=hF w_ hS_;go_simp<;>first | with_reducible rfl | (constructor<;>with_reducible rfl));(intro w_ hS_;have hk_:=hF w_ hS_;first | (go_at_call 111;(first | with_reducible refine (lpurse_is HNd.out.1 _ _ _ _ _ _ _ _ _ ow _).mono ?_ | with_reducible refine (lpurse_is HNd.out.2 _ _ _ _ _ _ _ _ _ ow _).mono ?_);first | (rintro e w_ ⟨rfl,rfl⟩;refine ⟨?_,Below.refl _ _⟩;with_reducible rfl) | (rintro e w_ ⟨rfl,hb_⟩;refine ⟨?_,hb_⟩;with_reducible rfl)));simp only [Act.put,sA,sB,sC]))
   refine steps_two (i:=6) (j:=7) (ord':=[6,8,9]) (by kernel_rfl) rfl ?_ ?_
   ·refine Rh.One.val (AtB 50 #[.int .i64 0,.int .i64 0] M.heap.size) (fun _ _ _ h k=>h.stays k) (by rfl) (by rfl) ?_ ?_
    ·intro w_ hS_ _
     exact ⟨_,_,by go_simp<;>rfl,below1 w_ _,AtB.made _ _ hS_.size⟩
    rintro v1 u1 ⟨pb,rfl,-,-⟩
    simp only [Act.put,sA,sB,sC]
    refine Rh.Steps.forced (i:=7) (by kernel_rfl) ?_
    refine Rh.One.val (fun v u=>AtB 50 #[.int .i64 0,.int .i64 0] M.heap.size v u∧v≠.pointer (some ⟨pb,0,none⟩)) (fun _ _ _ h k=>⟨h.1.stays k,h.2⟩) (by rfl) (by rfl) ?_ ?_
    ·intro w_ hS_ hG_
     refine ⟨_,_,by go_simp<;>rfl,below1 w_ _,AtB.made _ _ hS_.size,fun e=>?_⟩
     injection e with e
     injection e with e
     injection e with e
     have:=(Array.getElem?_eq_some_iff.1 hG_.2.inv.2).1
     omega
    rintro v2 u2 ⟨⟨qb,rfl,-,-⟩,hne⟩
    simp only [Act.put,sA,sB,sC]
    have hne':qb≠pb:=fun e=>hne (by rw [e])
    have hpq:pb≠qb:=hne'.symm
    clear hne hne'
    refine Rh.Steps.forced (i:=8) (by kernel_rfl) ?_
    refine Rh.One.store (fun u=>(AtB 50 #[.int .i64 ow,.int .i64 lb] M.heap.size (.pointer (some ⟨pb,0,none⟩)) u∧AtB 50 #[.int .i64 0,.int .i64 0] M.heap.size (.pointer (some ⟨qb,0,none⟩)) u)) (fun _ _ h k=>⟨h.1.stays k,h.2.stays k⟩) (by rfl) (by rfl) ?_ ?_
    ·intro w_ hS_ hG_
     obtain ⟨hp1,hp2⟩:=hG_.1.2.inv
     obtain ⟨hq1,hq2⟩:=hG_.2.1.inv
     have hpl:plain 2 w_ pb=true:=by simp [Rw.plain,hp2]
     have hz:=(Array.getElem?_eq_some_iff.1 hp2).1
     refine ⟨w_.setRow pb #[.int .i64 ow,.int .i64 lb],by go_simp,below_setRow hS_ hp1 _,⟨pb,rfl,hp1,setRow_heap w_ pb _ _ _ _ hp2⟩,⟨qb,rfl,hq1,(setRow_other w_ pb qb _ hpq.symm).trans hq2⟩⟩
    refine Rh.Steps.forced (i:=9) (by kernel_rfl) ?_
    refine Rh.One.store (fun u=>(AtB 50 #[.int .i64 ow,.int .i64 lb] M.heap.size (.pointer (some ⟨pb,0,none⟩)) u∧AtB 50 #[.int .i64 ow,.int .i64 lq] M.heap.size (.pointer (some ⟨qb,0,none⟩)) u)) (fun _ _ h k=>⟨h.1.stays k,h.2.stays k⟩) (by rfl) (by rfl) ?_ ?_
    ·intro w_ hS_ hG_
     obtain ⟨hp1,hp2⟩:=hG_.1.inv
     obtain ⟨hq1,hq2⟩:=hG_.2.inv
     have hpl:plain 2 w_ qb=true:=by simp [Rw.plain,hq2]
     have hz:=(Array.getElem?_eq_some_iff.1 hq2).1
     refine ⟨w_.setRow qb #[.int .i64 ow,.int .i64 lq],by go_simp,below_setRow hS_ hq1 _,⟨pb,rfl,hp1,(setRow_other w_ qb pb _ hpq).trans hp2⟩,⟨qb,rfl,hq1,setRow_heap w_ qb _ _ _ _ hq2⟩⟩
    refine Rh.Steps.nil (by kernel_rfl) ?_
    intro w9 hS9 hG9
    go_wp2_with fail
    go_meet
    exact ⟨hG9.1,hG9.2,hS9⟩
   ·refine Rh.One.val (AtB 50 #[.int .i64 0,.int .i64 0] M.heap.size) (fun _ _ _ h k=>h.stays k) (by rfl) (by rfl) ?_ ?_
    ·intro w_ hS_ _
     exact ⟨_,_,by go_simp<;>rfl,below1 w_ _,AtB.made _ _ hS_.size⟩
    rintro v1 u1 ⟨qb,rfl,-,-⟩
    simp only [Act.put,sA,sB,sC]
    refine Rh.Steps.forced (i:=6) (by kernel_rfl) ?_
    refine Rh.One.val (fun v u=>AtB 50 #[.int .i64 0,.int .i64 0] M.heap.size v u∧v≠.pointer (some ⟨qb,0,none⟩)) (fun _ _ _ h k=>⟨h.1.stays k,h.2⟩) (by rfl) (by rfl) ?_ ?_
    ·intro w_ hS_ hG_
     refine ⟨_,_,by go_simp<;>rfl,below1 w_ _,AtB.made _ _ hS_.size,fun e=>?_⟩
     injection e with e
     injection e with e
     injection e with e
     have:=(Array.getElem?_eq_some_iff.1 hG_.2.inv.2).1
     omega
    rintro v2 u2 ⟨⟨pb,rfl,-,-⟩,hne⟩
    simp only [Act.put,sA,sB,sC]
    have hne':pb≠qb:=fun e=>hne (by rw [e])
    have hpq:pb≠qb:=hne'
    clear hne hne'
    refine Rh.Steps.forced (i:=8) (by kernel_rfl) ?_
    refine Rh.One.store (fun u=>(AtB 50 #[.int .i64 ow,.int .i64 lb] M.heap.size (.pointer (some ⟨pb,0,none⟩)) u∧AtB 50 #[.int .i64 0,.int .i64 0] M.heap.size (.pointer (some ⟨qb,0,none⟩)) u)) (fun _ _ h k=>⟨h.1.stays k,h.2.stays k⟩) (by rfl) (by rfl) ?_ ?_
    ·intro w_ hS_ hG_
     obtain ⟨hp1,hp2⟩:=hG_.2.1.inv
     obtain ⟨hq1,hq2⟩:=hG_.1.2.inv
     have hpl:plain 2 w_ pb=true:=by simp [Rw.plain,hp2]
     have hz:=(Array.getElem?_eq_some_iff.1 hp2).1
     refine ⟨w_.setRow pb #[.int .i64 ow,.int .i64 lb],by go_simp,below_setRow hS_ hp1 _,⟨pb,rfl,hp1,setRow_heap w_ pb _ _ _ _ hp2⟩,⟨qb,rfl,hq1,(setRow_other w_ pb qb _ hpq.symm).trans hq2⟩⟩
    refine Rh.Steps.forced (i:=9) (by kernel_rfl) ?_
    refine Rh.One.store (fun u=>(AtB 50 #[.int .i64 ow,.int .i64 lb] M.heap.size (.pointer (some ⟨pb,0,none⟩)) u∧AtB 50 #[.int .i64 ow,.int .i64 lq] M.heap.size (.pointer (some ⟨qb,0,none⟩)) u)) (fun _ _ h k=>⟨h.1.stays k,h.2.stays k⟩) (by rfl) (by rfl) ?_ ?_
    ·intro w_ hS_ hG_
     obtain ⟨hp1,hp2⟩:=hG_.1.inv
     obtain ⟨hq1,hq2⟩:=hG_.2.inv
     have hpl:plain 2 w_ qb=true:=by simp [Rw.plain,hq2]
     have hz:=(Array.getElem?_eq_some_iff.1 hq2).1
     refine ⟨w_.setRow qb #[.int .i64 ow,.int .i64 lq],by go_simp,below_setRow hS_ hq1 _,⟨pb,rfl,hp1,(setRow_other w_ qb pb _ hpq).trans hp2⟩,⟨qb,rfl,hq1,setRow_heap w_ qb _ _ _ _ hq2⟩⟩
    refine Rh.Steps.nil (by kernel_rfl) ?_
    intro w9 hS9 hG9
    go_wp2_with fail
    go_meet
    exact ⟨hG9.1,hG9.2,hS9⟩
 case rest =>
  obtain ⟨hp,hq,hbc⟩:=hcut
  obtain ⟨pb,rfl,hp1,hp2⟩:=hp
  obtain ⟨qb,rfl,hq1,hq2⟩:=hq
  have HPq:=lH (And.intro hp2 hq2)
  have HStc:=lH (HStM.out.stays hbc)
  have HVc:=lH (HVB.out.stays hbc)
  have hF2:∀ u,Below wc.heap.size wc u→row u pb=#[.int .i64 ow,.int .i64 lb]∧row u qb=#[.int .i64 ow,.int .i64 lq]∧u.cell? ⟨w.heap.size,5,none⟩=some (.slice a3 n3 c3):=fun u hu=>by
   refine ⟨?_,?_,(HStc.out.stays hu).lb.cells.2.2.2.2.2⟩
   ·unfold Rw.row;rw [(hu.block pb (Array.getElem?_eq_some_iff.1 HPq.out.1).1).trans HPq.out.1]
   ·unfold Rw.row;rw [(hu.block qb (Array.getElem?_eq_some_iff.1 HPq.out.2).1).trans HPq.out.2]
  have hodm:od.length≤1000000:=by omega
  clear hp2 hq2 hF
  go_upto_region 5 with fail
  refine Rh.rb [0,1,2,3,4,5,6,7,8,9] ?_
  repeat (first | (refine Rh.Steps.sk ?_;simp only [Act.put,sA,sB,sC]) | (refine Rh.Steps.pu (v:=?_) ?_ ?_;rotate_left;(intro w_ hS_;have hk_:=hF2 w_ hS_;go_simp<;>with_reducible rfl);simp only [Act.put,sA,sB,sC]) | (refine Rh.Steps.ca (v:=?_) (f:=?_) (args:=?_) ?_ ?_ ?_;rotate_left 3;(intro w_ hS_;have hk_:=hF2 w_ hS_;go_simp<;>first | with_reducible rfl | (constructor<;>with_reducible rfl));(intro w_ hS_;have hk_:=hF2 w_ hS_;first | (go_at_call 24;(first | with_reducible refine (getH_is HX (HStc.out.stays hS_).lb.l3 hodm).mono ?_ | with_reducible refine (getH_is HY (HStc.out.stays hS_).lb.l3 hodm).mono ?_);first | (rintro e w_ ⟨rfl,rfl⟩;refine ⟨?_,Below.refl _ _⟩;with_reducible rfl) | (rintro e w_ ⟨rfl,hb_⟩;refine ⟨?_,hb_⟩;with_reducible rfl)));simp only [Act.put,sA,sB,sC]))
  refine Rh.Steps.nil (by kernel_rfl) ?_
  rintro w2 hb2 -
  have HSt2:=lH (HStc.out.stays hb2)
  have HV2:=lH (HVc.out.stays hb2)
  by_cases h0:x=0∧y=0
  ·have HZ:Hid (R=((lb,lq,(bu,se,nn),od),fr,0,0,16)):=lH (by rw [HP.out,if_pos h0])
   obtain ⟨rfl,rfl⟩:=h0
   have hrow:=HSt2.out.lb.row
   simp only at hrow
   have hpl:=HSt2.out.pl
   obtain ⟨z1,z2,z3⟩:=HSt2.out.lt
   go_wp2
   refine bodyPost_ret (v:=.tuple #[.agg (cN lb lq (.slice a1 n1 c1) (.slice a2 n2 c2) nn (.slice a3 n3 c3)),.slice fa fn fc,.int .i64 0,.int .i64 0,.int .i64 16]) (ret_N5 Tryz.results128 _ _ rfl ?c1) rfl ⟨_,_,by rw [HZ.out],?c2⟩
   case c1=>exact row_set _ hpl
   case c2 =>
    rw [HZ.out]
    exact HSt2.out.ret
  have HP2:Hid (R=if giveE fr (ow,lb) x=0 then
   (if giveE (giveL fr (ow,lb) x) (ow,lq) y=0 then ((lb,lq,(bu,se,nn),takeL (takeL od (ow,lb) x) (ow,lq) y),giveL (giveL fr (ow,lb) x) (ow,lq) y,x,y,0) else ((lb,lq,(bu,se,nn),od),fr,0,0,giveE (giveL fr (ow,lb) x) (ow,lq) y)) else ((lb,lq,(bu,se,nn),od),fr,0,0,giveE fr (ow,lb) x)):=lH (by rw [HP.out,if_neg h0])
  have hne:od≠[]:=fun e=>h0 ⟨by rw [← HX.out,e];rfl,by rw [← HY.out,e];rfl⟩
  have HNe:=lH hne
  have hxy:((x==0)=true∧(y==0)=false)∨(x==0)=false:=by
   by_cases hx0:x=0
   ·exact .inl ⟨by simpa using hx0,by simpa using fun hy0=>h0 ⟨hx0,hy0⟩⟩
   ·exact .inr (by simpa using hx0)
  obtain ⟨E1,hE1⟩:∃ E,giveE fr (ow,lb) x=E:=⟨_,rfl⟩
  have HE1:=lH hE1
  have HFm:=lH (show fr.length≤1000000 by rw [HFn.out];omega)
  obtain ⟨kp,kq,k5⟩:=hF2 w2 hb2
  have zp:pb<w2.heap.size:=Nat.lt_of_lt_of_le (Array.getElem?_eq_some_iff.1 HPq.out.1).1 hb2.size
  clear h0 hne hE1
  go_upto_region 6 with fail
  go_cut [45] (fun p u=>p=.bool false∧u=w2)
  case first =>
   rcases hxy with ⟨d1,d2⟩ | d1
   ·go_wp2_with fail
    go_meet
    exact ⟨rfl,rfl⟩
   ·go_wp2_with fail
    go_meet
    exact ⟨rfl,rfl⟩
  case rest =>
   obtain ⟨rfl,rfl⟩:=hcut
   go_wp2_with fail
   refine (giveH_is HE1 HSt2.out.fr HFm.out).mono ?_
   rintro e w3 ⟨a11,n11,c11,rfl,hb3,hf3⟩
   have HSt3:=lH (HSt2.out.stays hb3)
   have HV3:=lH (HV2.out.stays hb3)
   by_cases hne1:E1≠0
   ·have hde:(E1 != 0)=true:=by simpa using hne1
    have HZ:Hid (R=((lb,lq,(bu,se,nn),od),fr,0,0,E1)):=lH (by rw [HP2.out,HE1.out,if_neg hne1])
    clear hne1
    have hrow:=HSt3.out.lb.row
    simp only at hrow
    have hpl:=HSt3.out.pl
    obtain ⟨z1,z2,z3⟩:=HSt3.out.lt
    go_wp2
    refine bodyPost_ret (v:=.tuple #[.agg (cN lb lq (.slice a1 n1 c1) (.slice a2 n2 c2) nn (.slice a3 n3 c3)),.slice fa fn fc,.int .i64 0,.int .i64 0,.int .i64 E1]) (ret_N5 Tryz.results128 _ _ rfl ?c1) rfl ⟨_,_,by rw [HZ.out],?c2⟩
    case c1=>exact row_set _ hpl
    case c2 =>
     rw [HZ.out]
     exact HSt3.out.ret
   obtain rfl:E1=0:=by simpa using hne1
   obtain ⟨E2,hE2⟩:∃ E,giveE (giveL fr (ow,lb) x) (ow,lq) y=E:=⟨_,rfl⟩
   have HE2:=lH hE2
   have HP3:Hid (R=if E2=0 then ((lb,lq,(bu,se,nn),takeL (takeL od (ow,lb) x) (ow,lq) y),giveL (giveL fr (ow,lb) x) (ow,lq) y,x,y,0) else ((lb,lq,(bu,se,nn),od),fr,0,0,E2)):=lH (by rw [HP2.out,HE1.out,if_pos rfl,hE2])
   have hgr:=Ac.give_done HE1.out
   have HFm2:=lH (show (giveL fr (ow,lb) x).length≤1000000 by have:=Ac.right_512 hgr.1;omega)
   have hbc3:=nx hb2 hb3
   obtain ⟨_,kq,_⟩:=hF2 w3 hbc3
   have zq:qb<w3.heap.size:=Nat.lt_of_lt_of_le (Array.getElem?_eq_some_iff.1 HPq.out.2).1 hbc3.size
   have HF3:=lH hf3
   clear hne1 hE2 hgr kp k5 zp hf3
   go_wp2_with fail
   refine (giveH_is HE2 HF3.out HFm2.out).mono ?_
   rintro e w4 ⟨a12,n12,c12,rfl,hb4,hf4⟩
   have HSt4:=lH (HSt3.out.stays hb4)
   have HV4:=lH (HV3.out.stays hb4)
   by_cases hne2:E2≠0
   ·have hde:(E2 != 0)=true:=by simpa using hne2
    have HZ:Hid (R=((lb,lq,(bu,se,nn),od),fr,0,0,E2)):=lH (by rw [HP3.out,if_neg hne2])
    clear hne2
    have hrow:=HSt4.out.lb.row
    simp only at hrow
    have hpl:=HSt4.out.pl
    obtain ⟨z1,z2,z3⟩:=HSt4.out.lt
    go_wp2
    refine bodyPost_ret (v:=.tuple #[.agg (cN lb lq (.slice a1 n1 c1) (.slice a2 n2 c2) nn (.slice a3 n3 c3)),.slice fa fn fc,.int .i64 0,.int .i64 0,.int .i64 E2]) (ret_N5 Tryz.results128 _ _ rfl ?c1) rfl ⟨_,_,by rw [HZ.out],?c2⟩
    case c1=>exact row_set _ hpl
    case c2 =>
     rw [HZ.out]
     exact HSt4.out.ret
   obtain rfl:E2=0:=by simpa using hne2
   have hfil:=collect_notOf (ow:=ow) HRN.out.owed HRN.out.only' (pairOk_iff.1 HRN.out.pair).2.2.2.2 (Ac.give_ok HE1.out).2.1 (Ac.give_ok HE2.out).2.1
   simp only at hfil
   rw [HX.out,HY.out] at hfil
   have HZ:Hid (R=((lb,lq,(bu,se,nn),od.filter (notOf ow)),giveL (giveL fr (ow,lb) x) (ow,lq) y,x,y,0)):=lH (by rw [HP3.out,if_pos rfl,hfil])
   have HF4:=lH hf4
   have HVlt:=lH (show w.heap.size+1+1<w1.heap.size∧w1.heap.size<w4.heap.size from ⟨HSt1.out.lt.2.2,HV4.out.lt⟩)
   have hS0:∀ u:World,(u.heap[w.heap.size]?=w4.heap[w.heap.size]?∧w4.heap.size≤u.heap.size)→u.cell? ⟨w.heap.size,2,none⟩=some (.slice a1 n1 c1)∧u.cell? ⟨w.heap.size,3,none⟩=some (.slice a2 n2 c2):=fun u hu=>by
    have hl:=HSt4.out.lb.bk
    refine ⟨?_,?_⟩<;>simp [World.cell?,hu.1,hl]
   have hsm:=HSm.out
   have hs1:=hsm.m1
   have hs2:=hsm.m2
   have hs3:=hsm.m3
   have hs4:=hsm.m4
   simp only at hs1 hs2 hs3 hs4
   clear hne2 hfil hf4 kq zq hsm
   go_upto_region 14 with fail
   refine Rh.rg (fun u=>u.heap[w.heap.size]?=w4.heap[w.heap.size]?∧w4.heap.size≤u.heap.size) (fun u=>Below w4.heap.size w4 u) (fun u u' h k=>⟨(k.block _ (Nat.lt_of_lt_of_le HSt4.out.lb.lt h.2)).trans h.1,Nat.le_trans h.2 k.size⟩) (fun _ _ h k=>nx h k) (⟨rfl,Nat.le_refl _⟩) ((Below.refl _ _).drew) [0,1,2,4,5,6,3,8,9,10,7,11,12,13,14,15] ?_
   repeat (first | (refine Rh.Steps.sk ?_;simp only [Act.put,sA,sB,sC]) | (refine Rh.Steps.pu (v:=?_) ?_ ?_;rotate_left;(intro w_ hS_;have hk_:=hS0 w_ hS_;go_simp<;>with_reducible rfl);simp only [Act.put,sA,sB,sC]))
   refine Rh.Steps.forced (i:=3) (by kernel_rfl) ?_
   refine Rh.One.call (fun v u=>LL B bu v u) (fun v _ _ h k=>Is.stays eL 106 h k) (f:=?_) (args:=?_) (by rfl) (by rfl) ?_ ?_ ?_
   rotate_left 2
   ·intro w_ hS_ hG_;go_simp<;>first | with_reducible rfl | (constructor<;>with_reducible rfl)
   ·intro w_ hS_ hG_;(go_at_call 155;refine (lcloned_any B bu _ w_ (HSt4.out.stays hG_).lb.l1 (HB.out w_ (HSt4.out.stays hG_).bel) (by omega) (by omega)).mono ?_;rintro e w' ⟨v,rfl,hb9,ho⟩;exact ⟨v,rfl,hb9,ho⟩)
   intro v1 u_ hv1
   simp only [Act.put,sA,sB,sC]
   repeat (first | (refine Rh.Steps.sk ?_;simp only [Act.put,sA,sB,sC]) | (refine Rh.Steps.pu (v:=?_) ?_ ?_;rotate_left;(intro w_ hS_;skip;go_simp<;>with_reducible rfl);simp only [Act.put,sA,sB,sC]))
   refine Rh.Steps.forced (i:=7) (by kernel_rfl) ?_
   refine Rh.One.call (fun v u=>LL B se v u) (fun v _ _ h k=>Is.stays eL 106 h k) (f:=?_) (args:=?_) (by rfl) (by rfl) ?_ ?_ ?_
   rotate_left 2
   ·intro w_ hS_ hG_;go_simp<;>first | with_reducible rfl | (constructor<;>with_reducible rfl)
   ·intro w_ hS_ hG_;(go_at_call 155;refine (lcloned_any B se _ w_ (HSt4.out.stays hG_.1).lb.l2 (HB.out w_ (HSt4.out.stays hG_.1).bel) (by omega) (by omega)).mono ?_;rintro e w' ⟨v,rfl,hb9,ho⟩;exact ⟨v,rfl,hb9,ho⟩)
   intro v2 u_ hv2
   simp only [Act.put,sA,sB,sC]
   obtain ⟨b1,d1,rfl⟩:=hv1.len
   obtain ⟨b2,d2,rfl⟩:=hv2.len
   refine Rh.Steps.forced (i:=11) (by kernel_rfl) ?_
   refine Rh.One.store (fun u=>VB B (lb,lq,(bu,se,nn),od) (.slice b1 bu.length d1) (.slice a2 n2 c2) (.slice a3 n3 c3) w1.heap.size u∧LL B se (.slice b2 se.length d2) u∧HL B.lo (giveL (giveL fr (ow,lb) x) (ow,lq) y) (.slice a12 n12 c12) u∧u.heap[w.heap.size+1]?=some (.cells #[.int .i64 ow] 3 (0,0))∧u.heap[w.heap.size+1+1]?=some (.cells (nilN 0 0 0) 59 (0,0))∧Below w.heap.size w u) (fun _ _ h k=>⟨h.1.stays k,Is.stays eL 106 h.2.1 k,hl_stays h.2.2.1 k,(k.block _ (Array.getElem?_eq_some_iff.1 h.2.2.2.1).1).trans h.2.2.2.1,(k.block _ (Array.getElem?_eq_some_iff.1 h.2.2.2.2.1).1).trans h.2.2.2.2.1,h.2.2.2.2.2.trans (k.mono (by have:=(Array.getElem?_eq_some_iff.1 h.2.2.2.1).1;omega))⟩) (by rfl) (by rfl) ?_ ?_
   ·intro w_ hS_ hG_
    have hvb:=HV4.out.stays hG_.1.1
    have hst:=HSt4.out.stays hG_.1.1
    obtain ⟨m0,m1,m2,m3,m4,m5⟩:=hvb.cells
    simp only at m0 m1 m2 m3 m4 m5
    have mf2:=hvb.free 2
    have hlo:=hvb.lo
    have hset:=hvb.set (m:=(lb,lq,(bu,se,nn),od)) 2 (.slice b1 bu.length d1) rfl hG_.1.2 hvb.l2 hvb.l3
    have hkk:∀ A:Bs,A.lo≤w1.heap.size→∀ ts,137 ∉ ts→Da.Keeps A ts w_ (w_.setCell ⟨w1.heap.size,2,none⟩ (.slice b1 bu.length d1)):=fun A hA ts ht=>keeps_setCell 2 _ hvb.bk ht hA
    have hot:∀ k,k≠w1.heap.size→(w_.setCell ⟨w1.heap.size,2,none⟩ (.slice b1 bu.length d1)).heap[k]?=w_.heap[k]?:=fun k hk=>Below.heap_setCell _ ⟨w1.heap.size,2,none⟩ _ k hk
    have hv:=HVlt.out
    have q1:=(hot (w.heap.size+1) (by omega)).trans hst.ob
    have q2:=(hot (w.heap.size+1+1) (by omega)).trans hst.g
    have q3:=(hot w.heap.size (by omega)).trans hS_.1
    have q4:=hst.bel.trans (low_setCell (w:=w_) 2 (.slice b1 bu.length d1) (show w.heap.size≤w1.heap.size by omega))
    have q5:=Is.keep eL 106 hG_.2 (hkk B hlo _ (by decide))
    have q6:=hl_keep (hl_stays HF4.out hG_.1.1) (hkk (Bs.of B.lo) hlo _ (by decide))
    refine ⟨w_.setCell ⟨w1.heap.size,2,none⟩ (.slice b1 bu.length d1),?_,⟨q3,by simp;exact hS_.2⟩,hset,q5,q6,q1,q2,q4⟩
    clear hset hkk hot hv q1 q2 q3 q4 q5 q6 hvb hst hG_ hS_
    go_simp
   repeat (first | (refine Rh.Steps.sk ?_;simp only [Act.put,sA,sB,sC]) | (refine Rh.Steps.pu (v:=?_) ?_ ?_;rotate_left;(intro w_ hS_;skip;go_simp<;>with_reducible rfl);simp only [Act.put,sA,sB,sC]))
   refine Rh.Steps.forced (i:=15) (by kernel_rfl) ?_
   refine Rh.One.store (fun u=>VB B (lb,lq,(bu,se,nn),od) (.slice b1 bu.length d1) (.slice b2 se.length d2) (.slice a3 n3 c3) w1.heap.size u∧HL B.lo (giveL (giveL fr (ow,lb) x) (ow,lq) y) (.slice a12 n12 c12) u∧u.heap[w.heap.size+1]?=some (.cells #[.int .i64 ow] 3 (0,0))∧u.heap[w.heap.size+1+1]?=some (.cells (nilN 0 0 0) 59 (0,0))∧Below w.heap.size w u) (fun _ _ h k=>⟨h.1.stays k,hl_stays h.2.1 k,(k.block _ (Array.getElem?_eq_some_iff.1 h.2.2.1).1).trans h.2.2.1,(k.block _ (Array.getElem?_eq_some_iff.1 h.2.2.2.1).1).trans h.2.2.2.1,h.2.2.2.2.trans (k.mono (by have:=(Array.getElem?_eq_some_iff.1 h.2.2.1).1;omega))⟩) (by rfl) (by rfl) ?_ ?_
   ·intro w_ hS_ hG_
    obtain ⟨hvb,hse,hfl,hob,hgg,hbw⟩:=hG_
    obtain ⟨m0,m1,m2,m3,m4,m5⟩:=hvb.cells
    simp only at m0 m1 m2 m3 m4 m5
    have mf3:=hvb.free 3
    have hlo:=hvb.lo
    have hset:=hvb.set (m:=(lb,lq,(bu,se,nn),od)) 3 (.slice b2 se.length d2) rfl hvb.l1 hse hvb.l3
    have hot:∀ k,k≠w1.heap.size→(w_.setCell ⟨w1.heap.size,3,none⟩ (.slice b2 se.length d2)).heap[k]?=w_.heap[k]?:=fun k hk=>Below.heap_setCell _ ⟨w1.heap.size,3,none⟩ _ k hk
    have hv:=HVlt.out
    have q1:=(hot (w.heap.size+1) (by omega)).trans hob
    have q2:=(hot (w.heap.size+1+1) (by omega)).trans hgg
    have q3:=(hot w.heap.size (by omega)).trans hS_.1
    have q4:=hbw.trans (low_setCell (w:=w_) 3 (.slice b2 se.length d2) (show w.heap.size≤w1.heap.size by omega))
    have q6:=hl_keep hfl (keeps_setCell (B:=Bs.of B.lo) 3 (.slice b2 se.length d2) hvb.bk (by decide) hlo)
    refine ⟨w_.setCell ⟨w1.heap.size,3,none⟩ (.slice b2 se.length d2),?_,⟨q3,by simp;exact hS_.2⟩,hset,q6,q1,q2,q4⟩
    clear hset hot hv q1 q2 q3 q4 q6 hvb hS_
    go_simp
   refine Rh.Steps.nil (by kernel_rfl) ?_
   rintro w5 hS5 ⟨hvb,hfl,hob,hgg,hbw⟩
   obtain ⟨nb1,hnb1⟩:∃ n,bu.length=n:=⟨_,rfl⟩
   obtain ⟨nb2,hnb2⟩:∃ n,se.length=n:=⟨_,rfl⟩
   rw [hnb1,hnb2] at hvb
   have z0:w.heap.size<w5.heap.size:=Nat.lt_of_lt_of_le HSt4.out.lb.lt hS5.2
   have hl5:w5.heap[w.heap.size]?=some (.cells (cN lb lq (.slice a1 n1 c1) (.slice a2 n2 c2) nn (.slice a3 n3 c3)) 59 (0,0)):=hS5.1.trans HSt4.out.lb.bk
   have r5:w5.cell? ⟨w.heap.size,5,none⟩=some (.slice a3 n3 c3):=by simp [World.cell?,hl5]
   have HVB5:=lH hvb
   have HFL5:=lH hfl
   have HOB5:=lH hob
   have HGG5:=lH hgg
   have HBW5:=lH hbw
   clear hvb hfl hob hgg hbw hS0 hl5 hS5
   go_wp2_with fail
   refine (cloneH_any (lo:=B.lo) od _ w5 HVB5.out.l3 (HB.out w5 HBW5.out).1 hodm).mono ?_
   rintro e w6 ⟨v6,rfl,hb6,hown⟩
   have hob6:=(hb6.block _ (Array.getElem?_eq_some_iff.1 HOB5.out).1).trans HOB5.out
   have zo6:=(Array.getElem?_eq_some_iff.1 hob6).1
   have hc6:w6.cell? ⟨w.heap.size+1,0,none⟩=some (.int .i64 ow):=by simp [World.cell?,hob6]
   have zo5:=(Array.getElem?_eq_some_iff.1 HOB5.out).1
   have HCall:=lH (deleteH_is (HB.out w5 HBW5.out) hown HNe.out hodm zo5 zo6 hc6)
   clear hob6 hc6 r5 hown
   go_wp2_with fail
   refine HCall.out.mono ?_
   rintro e w7 ⟨a13,n13,c13,g,rfl,hg7,hgr7,hod7⟩
   have hlow:Below w5.heap.size w5 w7:=hb6.grown hgr7 hb6.size (fun k hk=>by cases hk;exact hg7)
   have hvb7:=HVB5.out.stays hlow
   have hob7:=(hlow.block _ (Array.getElem?_eq_some_iff.1 HOB5.out).1).trans HOB5.out
   have hgg7:=(hlow.block _ (Array.getElem?_eq_some_iff.1 HGG5.out).1).trans HGG5.out
   have hfl7:=hl_stays HFL5.out hlow
   have hbw7:=nx HBW5.out hlow
   obtain ⟨m0,m1,m2,m3,m4,m5⟩:=hvb7.cells
   simp only at m0 m1 m2 m3 m4 m5
   have mf5:=hvb7.free 5
   have hlo:=hvb7.lo
   obtain ⟨k1',k2',k3',k4'⟩:=hvb7.owed hod7
   have hv:=HVlt.out
   obtain ⟨Z,hZ⟩:∃ Z,Z=w7.setCell ⟨w1.heap.size,5,none⟩ (.slice a13 n13 c13):=⟨_,rfl⟩
   rw [← hZ] at k1' k2' k3' k4'
   have hggZ:=(k3' (w.heap.size+1+1) (by omega)).trans hgg7
   have hflZ:=hl_keep hfl7 (k2' _ (by decide) (Bs.of B.lo) hlo)
   have hbwZ:=hbw7.trans (k4' w.heap.size (by omega))
   have hrow:=k1'.row
   simp only at hrow
   have zz:=k1'.lt
   have hpl:plain 6 Z (w.heap.size+1+1)=true:=by simp [Rw.plain,hggZ]
   have zg:=(Array.getElem?_eq_some_iff.1 hggZ).1
   have HZ1:=lH k1'
   have HZ2:=lH hggZ
   have HZ3:=lH hflZ
   have HZ4:=lH hbwZ
   have z7:=hvb7.lt
   rw [hZ] at hrow zz hpl zg
   have HZe:=lH hZ
   clear k1' k2' k3' k4' hggZ hflZ hbwZ hv hZ hvb7 hob7 hgg7 hfl7 hbw7 hlow hod7 hgr7 hb6
   go_wp2
   rw [← HZe.out]
   refine bodyPost_ret (v:=.tuple #[.agg (cN lb lq (.slice b1 nb1 d1) (.slice b2 nb2 d2) nn (.slice a13 n13 c13)),.slice a12 n12 c12,.int .i64 x,.int .i64 y,.int .i64 0]) (ret_N5 Tryz.results128 _ _ rfl ?c1) rfl ⟨_,_,by rw [HZ.out],?c2⟩
   case c1 =>
    have hpl':plain 6 Z (w.heap.size+1+1)=true:=by simp [Rw.plain,HZ2.out]
    exact row_set _ hpl'
   case c2 =>
    rw [HZ.out]
    have hlo1:B.lo≤w.heap.size+1+1:=by have:=HSt1.out.lb.lo;omega
    have hkk:∀ A:Bs,A.lo≤w.heap.size+1+1→∀ ts,59 ∉ ts→Da.Keeps A ts Z (Z.setRow (w.heap.size+1+1) (cN lb lq (.slice b1 nb1 d1) (.slice b2 nb2 d2) nn (.slice a13 n13 c13))):=fun A hA ts ht=>keeps_setRow _ HZ2.out ht hA
    exact ⟨below_setRow HZ4.out (by omega) _,⟨.slice b1 nb1 d1,.slice b2 nb2 d2,.slice a13 n13 c13,rfl,Is.keep eL 106 HZ1.out.l1 (hkk _ hlo1 _ (by decide)),Is.keep eL 106 HZ1.out.l2 (hkk _ hlo1 _ (by decide)),hl_keep HZ1.out.l3 (hkk (Bs.of B.lo) hlo1 _ (by decide))⟩,hl_keep HZ3.out (hkk (Bs.of B.lo) hlo1 _ (by decide))⟩
end Go.Proofs.YtjhocpcpkemcaaaGreat.La
