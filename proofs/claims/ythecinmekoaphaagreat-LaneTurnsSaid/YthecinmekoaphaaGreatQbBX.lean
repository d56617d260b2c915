/- Package lane as it landed: Place, walked (written by gen_lwj.py). -/
import Derived.Test.YthecinmekoaphaaGreatQbZZ
import Derived.Test.YthecinmekoaphaaGreatQbBS
import Derived.Test.YthecinmekoaphaaGreatQbBQ
import Derived.Test.YthecinmekoaphaaGreatQbBV
import Derived.Test.YthecinmekoaphaaGreatQbBC
import Derived.Test.YthecinmekoaphaaGreatQbBW
import Derived.Deep.DeepCutAuto
set_option linter.unusedVariables false
set_option maxRecDepth 16000
set_option maxHeartbeats 32000000
namespace Go.Proofs.YthecinmekoaphaaGreat.La
open Go.RowKit
open Rw
open Da
open Le
open Bk
open Ac (Hd Pu HL pmay pmay_iff tot total giveE giveL takeE takeL)
theorem placeB_is {b : Bk} {ow s p q : Int} {rest : Bool} {c : Pl} (h : Hid (place b ow s p q rest=c)) (h1 : b.1.length≤1000) (h2 : (flat b.1).length≤1000) (h3 : b.2.1.length≤1000) (h4 : (flat b.2.1).length≤1000) (B : Bs) (v : Value) (w : World) (hb : BL B b v w) (hB : B.le w.heap.size) :
  Calls Tryz.prog 50 #[v,.int .i64 ow,.int .i64 s,.int .i64 p,.int .i64 q,.bool rest] w (PlR B c.1 c.2.1 c.2.2.1 c.2.2.2.1 c.2.2.2.2 w):=by
 rw [← h.out]
 refine (Bk.place_any B b v ow s p q rest w hb hB h1 h2 h3 h4).mono fun e w' h=>?_
 obtain ⟨bv,fv,rfl,hb,⟨x,y,rfl,h1,h2⟩,h3⟩:=h
 obtain ⟨a1,c1,rfl⟩:=h1.len
 obtain ⟨a2,c2,rfl⟩:=h2.len
 obtain ⟨fa,fc,rfl⟩:=h3.len
 exact ⟨a1,_,c1,a2,_,c2,_,fa,_,fc,rfl,rfl,rfl,hb,h1,h2,h3⟩
theorem fin_set {l : Ln} {fr : List Hd} {ow s p L : Int} {C : Pl} {S : List Hd × Int × Int × Int} (hs : s=1∨s=2) (hid : 0≤C.2.2.2.1) (hL : L=if C.2.2.2.1=0 then 0 else C.2.2.1) (hp : S.2.1=sumP s C.2.1) (hg : S.2.2.1=sumG s C.2.1) :
  fin l fr ow s p C S=if setE l.1 l.2.1 ow s fr (ndN s p L+sumP s C.2.1) (sumG s C.2.1)=0 then ((l.1,l.2.1,C.1,S.1),giveL (takeL fr (ow,ndA l.1 l.2.1 s) (ndN s p L+sumP s C.2.1)) (ow,ndA l.1 l.2.1 (othS s)) (sumG s C.2.1),C.2.1,C.2.2.2.1,0) else (l,fr,[],0,setE l.1 l.2.1 ow s fr (ndN s p L+sumP s C.2.1) (sumG s C.2.1)):=by
 have e1 : (if s=2 then l.1 else l.2.1)=ndA l.1 l.2.1 s:=by rcases hs with rfl | rfl<;>rfl
 have e2 : (if s=2 then l.2.1 else l.1)=ndA l.1 l.2.1 (othS s):=by rcases hs with rfl | rfl<;>rfl
 have e3 : S.2.1+(if 0<C.2.2.2.1 then ndN s p C.2.2.1 else 0)=ndN s p L+sumP s C.2.1:=by
  rw [hp,hL]
  by_cases h0 : C.2.2.2.1=0
  ·rw [if_pos h0,if_neg (by omega)]
   have : ndN s p 0=0:=by unfold ndN;split<;>simp
   omega
  ·rw [if_neg h0,if_pos (by omega)];omega
 unfold fin setE
 simp only
 rw [e1,e2,e3,hg]
 by_cases h1 : takeE fr (ow,ndA l.1 l.2.1 s) (ndN s p L+sumP s C.2.1)=0
 ·rw [if_pos h1,if_pos h1]
 ·rw [if_neg h1,if_neg h1,if_neg h1]
theorem lplace_any (B : Bs) (l : Ln) (v : Value) (fr : List Hd) (fv : Value) (ow s p q : Int) (rest : Bool) (w : World) (h : LN B l v w) (hfr : HL B.lo fr fv w) (hB : B.le w.heap.size) (hs : Sm l) (hfm : fr.length≤1000) :
  Calls Tryz.prog 16 #[v,fv,.int .i64 ow,.int .i64 s,.int .i64 p,.int .i64 q,.bool rest] w (PostPN B (placeN l fr ow s p q rest) w):=by
 have HSm:=lH hs
 obtain ⟨R,hR⟩ : ∃ R,placeN l fr ow s p q rest=R:=⟨_,rfl⟩
 have HR:=lH hR
 rw [hR]
 obtain ⟨r,hr⟩ : ∃ r,(rightN l&&Ac.right fr)=r:=⟨_,rfl⟩
 have HR1:=lH hr
 have hm1:=hs.m1
 have hm2:=hs.m2
 have hm3:=hs.m3
 have hm4:=hs.m4
 have hm5:=hs.m5
 clear hR hr
 obtain ⟨lb,lq,⟨bu,se,nn⟩,od⟩:=l
 simp only at hm1 hm2 hm3 hm4 hm5
 obtain ⟨a1,n1,c1,a2,n2,c2,a3,n3,c3,rfl,e1,e2,e3,hl1,hl2,hl3⟩:=h.open'
 simp only at e1 e2 e3 hl1 hl2 hl3
 obtain ⟨V,hV⟩ : ∃ V,V=(w.alloc (.cells (cN lb lq (.slice a1 n1 c1) (.slice a2 n2 c2) nn (.slice a3 n3 c3)) 28)).alloc (.cells (nilN 0 0 0) 28):=⟨_,rfl⟩
 have hbV : Below w.heap.size w V:=hV ▸ below2 w _ _
 have hx0 : LB B (lb,lq,(bu,se,nn),od) (.slice a1 n1 c1) (.slice a2 n2 c2) (.slice a3 n3 c3) w.heap.size V:=by rw [hV];exact (LB.made hl1 hl2 hl3 hB.1).stays (below1 _ _)
 have hg0 : V.heap[w.heap.size+1]?=some (.cells (nilN 0 0 0) 28 (0,0)):=by
  have:=heap_alloc_new (w.alloc (.cells (cN lb lq (.slice a1 n1 c1) (.slice a2 n2 c2) nn (.slice a3 n3 c3)) 28)) (.cells (nilN 0 0 0) 28)
  rw [World.size_alloc] at this
  rw [hV];exact this
 have HB:=lH (show ∀ u,Below w.heap.size w u→B.le u.heap.size from fun u hu=>hB.mono hu.size)
 have HSt0:=lH (show St0 B (lb,lq,(bu,se,nn),od) (.slice a1 n1 c1) (.slice a2 n2 c2) (.slice a3 n3 c3) w.heap.size fr fv w V from ⟨hx0,hg0,hl_stays hfr hbV,hbV⟩)
 obtain ⟨fa,fc,rfl⟩:=hl_slice hfr
 obtain ⟨fn,hfn⟩ : ∃ fn,fr.length=fn:=⟨_,rfl⟩
 rw [hfn] at HSt0 hfm ⊢
 have HFn:=lH hfn
 have r0:=hx0.row
 simp only at r0
 rw [hV] at r0
 have HV:=lH hV
 clear hx0 hg0 hl1 hl2 hl3 h hfr hB e1 e2 e3 hV hfn hs
 go_enter Tryz.func16,Tryz.ntmps16
 go_wp2_with fail
 rw [← HV.out]
 refine (areRight_is HR1 HSt0.out.lb.ln HSt0.out.fr (HB.out V hbV) HSm.out (by rw [HFn.out];exact hfm)).mono ?_
 rintro e w1 ⟨rfl,hb1⟩
 have HSt1:=lH (HSt0.out.stays hb1)
 clear r0
 cases r
 ·have HZ : Hid (R=((lb,lq,(bu,se,nn),od),fr,[],0,1)):=lH (by rw [← HR.out];unfold placeN;rw [HR1.out,if_neg (by decide)])
  have hrow:=HSt1.out.lb.row
  simp only at hrow
  have hpl:=HSt1.out.pl
  obtain ⟨z1,z2⟩:=HSt1.out.lt
  go_wp2
  refine bodyPost_ret (v:=.tuple #[.agg (cN lb lq (.slice a1 n1 c1) (.slice a2 n2 c2) nn (.slice a3 n3 c3)),.slice fa fn fc,.slice none 0 0,.int .i64 0,.int .i64 1]) (ret_N5 Tryz.results16 _ _ rfl ?c1) rfl ⟨_,_,_,by rw [HZ.out],?c2⟩
  case c1=>exact row_set _ hpl
  case c2 =>
   rw [HZ.out]
   obtain ⟨q1,q2,q3⟩:=HSt1.out.ret
   exact ⟨q1,q2,q3,Is.nil _ _ _ _⟩
 have hrr:=HR1.out
 rw [Bool.and_eq_true] at hrr
 have hrt:=rightN_iff.1 hrr.1
 have HRt:=lH hrt
 obtain ⟨C,hC⟩ : ∃ C,place (bu,se,nn) ow s p q rest=C:=⟨_,rfl⟩
 have HC:=lH hC
 have HPl : Hid (R=if C.2.2.2.2=0 then (if (stl lb lq s C.2.1 od 0 0).2.2.2=0 then fin (lb,lq,(bu,se,nn),od) fr ow s p C (stl lb lq s C.2.1 od 0 0) else ((lb,lq,(bu,se,nn),od),fr,[],0,(stl lb lq s C.2.1 od 0 0).2.2.2)) else ((lb,lq,(bu,se,nn),od),fr,[],0,C.2.2.2.2)):=lH (by
  rw [← HR.out];unfold placeN;rw [HR1.out,if_pos rfl];simp only;rw [hC])
 clear hrr hrt hC
 obtain ⟨_,_,r2,r3,r4,_⟩:=HSt1.out.lb.cells
 simp only at r2 r3 r4
 have z1:=HSt1.out.lt.1
 have hbw1 : Below w.heap.size w w1:=HSt1.out.bel
 go_wp2_with fail
 refine (placeB_is HC hm1 hm2 hm3 hm4 B _ w1 HSt1.out.lb.bl (HB.out w1 hbw1)).mono ?_
 rintro e w5 ⟨b1,k1,d1,b2,k2,d2,n',ga,gn,gc,rfl,hnn',hgn,hb5,hlb1,hlb2,hfl⟩
 clear r2 r3 r4 z1
 obtain ⟨lf,hlf⟩ : ∃ lf,C.2.2.1=lf:=⟨_,rfl⟩
 obtain ⟨id,hid⟩ : ∃ id,C.2.2.2.1=id:=⟨_,rfl⟩
 obtain ⟨er,her⟩ : ∃ er,C.2.2.2.2=er:=⟨_,rfl⟩
 rw [hlf,hid,her]
 have HQ:=lH (show C.2.2.1=lf∧C.2.2.2.1=id∧C.2.2.2.2=er∧C.1.2.2=n'∧C.2.1.length=gn from ⟨hlf,hid,her,hnn',hgn⟩)
 obtain ⟨M5,hM5⟩ : ∃ M,M=w5.alloc (.cells #[.slice b1 k1 d1,.slice b2 k2 d2,.int .i64 n'] 25):=⟨_,rfl⟩
 have hbM5 : Below w5.heap.size w5 M5:=hM5 ▸ below1 w5 _
 have HSt5:=lH ((HSt1.out.stays hb5).stays hbM5)
 have hst5':=HSt1.out.stays hb5
 have HBk:=lH (show ∀ u,Below M5.heap.size M5 u→u.heap[w5.heap.size]?=some (.cells #[.slice b1 k1 d1,.slice b2 k2 d2,.int .i64 n'] 25 (0,0))∧LL B C.1.1 (.slice b1 k1 d1) u∧LL B C.1.2.1 (.slice b2 k2 d2) u∧FL B C.2.1 (.slice ga gn gc) u from fun u hu=>by
  have hb:=nx hbM5 hu
  have hbk : M5.heap[w5.heap.size]?=some (.cells #[.slice b1 k1 d1,.slice b2 k2 d2,.int .i64 n'] 25 (0,0)):=by rw [hM5];exact heap_alloc_new w5 _
  refine ⟨(hu.block _ (Array.getElem?_eq_some_iff.1 hbk).1).trans hbk,Is.stays eL 98 hlb1 hb,Is.stays eL 98 hlb2 hb,Is.stays eFl 91 hfl hb⟩)
 have HZ5:=lH hst5'.lt.2
 have HM5:=lH hM5
 clear hlf hid her hnn' hgn hlb1 hlb2 hfl hM5 hst5'
 go_upto_region 4 with fail
 rw [← HM5.out]
 by_cases hne : er≠0
 ·have hde : (er != 0)=true:=by simpa using hne
  have HZ : Hid (R=((lb,lq,(bu,se,nn),od),fr,[],0,er)):=lH (by rw [HPl.out,HQ.out.2.2.1,if_neg hne])
  clear hne
  have hrow:=HSt5.out.lb.row
  simp only at hrow
  have hpl:=HSt5.out.pl
  obtain ⟨z1,z2⟩:=HSt5.out.lt
  go_wp2
  refine bodyPost_ret (v:=.tuple #[.agg (cN lb lq (.slice a1 n1 c1) (.slice a2 n2 c2) nn (.slice a3 n3 c3)),.slice fa fn fc,.slice none 0 0,.int .i64 0,.int .i64 er]) (ret_N5 Tryz.results16 _ _ rfl ?c1) rfl ⟨_,_,_,by rw [HZ.out],?c2⟩
  case c1=>exact row_set _ hpl
  case c2 =>
   rw [HZ.out]
   obtain ⟨q1,q2,q3⟩:=HSt5.out.ret
   exact ⟨q1,q2,q3,Is.nil _ _ _ _⟩
 obtain rfl : 0=er:=by have : er=0:=(by simpa using hne);exact this.symm
 clear hne
 have hPN : PlN lb lq (bu,se,nn) ow s p C:=by rw [← HC.out];exact place_n HRt.out.book (by rw [HC.out];exact HQ.out.2.2.1)
 have HPN:=lH hPN
 obtain ⟨S,hS⟩ : ∃ S,stl lb lq s C.2.1 od 0 0=S:=⟨_,rfl⟩
 have HS:=lH hS
 have HP2 : Hid (R=if S.2.2.2=0 then fin (lb,lq,(bu,se,nn),od) fr ow s p C S else ((lb,lq,(bu,se,nn),od),fr,[],0,S.2.2.2)):=lH (by rw [HPl.out,HQ.out.2.2.1,if_pos rfl,hS])
 have hrow:=HSt5.out.lb.row
 simp only at hrow
 have z1:=HSt5.out.lt.1
 obtain ⟨M,hM⟩ : ∃ M,M=M5.alloc (.cells (cN lb lq (.slice a1 n1 c1) (.slice a2 n2 c2) nn (.slice a3 n3 c3)) 74):=⟨_,rfl⟩
 have hbM : Below M5.heap.size M5 M:=hM ▸ below1 M5 _
 have HStM:=lH (HSt5.out.stays hbM)
 have HVB:=lH (show VB B (lb,lq,(bu,se,nn),od) (.slice a1 n1 c1) (.slice a2 n2 c2) (.slice a3 n3 c3) M5.heap.size M from by rw [hM];exact VB.made (l:=(lb,lq,(bu,se,nn),od)) HSt5.out.lb.l1 HSt5.out.lb.l2 HSt5.out.lb.l3 (HB.out M5 HSt5.out.bel).1)
 have HM:=lH hM
 clear hPN hS hM
 go_upto_region 7 with fail
 rw [← HM.out]
 clear hrow z1
 have hrow:=HVB.out.row
 simp only at hrow
 have z1:=HVB.out.lt
 obtain ⟨es,hes⟩ : ∃ x,S.2.2.2=x:=⟨_,rfl⟩
 have HEs:=lH hes
 clear hes
 go_wp2_with fail
 refine (lowe_any B (lb,lq,(bu,se,nn),od) _ s C.2.1 _ M S HS.out HVB.out.ln (HB.out M HStM.out.bel) (HBk.out M hbM).2.2.2 (fun f hf=>HPN.out.fills f hf) (Nat.le_trans HPN.out.cnt (by decide)) hm5).mono ?_
 rintro e w6 ⟨ax,nx',cx,rfl,hb6,hx6⟩
 rw [HEs.out] at hx6 ⊢
 have HSt6:=lH (HStM.out.stays hb6)
 have hb56:=nx hbM hb6
 by_cases hne : es≠0
 ·have hde : (es != 0)=true:=by simpa using hne
  have HZ : Hid (R=((lb,lq,(bu,se,nn),od),fr,[],0,es)):=lH (by rw [HP2.out,HEs.out,if_neg hne])
  clear hne hrow z1
  have hrow:=HSt6.out.lb.row
  simp only at hrow
  have hpl:=HSt6.out.pl
  obtain ⟨z1,z2⟩:=HSt6.out.lt
  go_wp2
  refine bodyPost_ret (v:=.tuple #[.agg (cN lb lq (.slice a1 n1 c1) (.slice a2 n2 c2) nn (.slice a3 n3 c3)),.slice fa fn fc,.slice none 0 0,.int .i64 0,.int .i64 es]) (ret_N5 Tryz.results16 _ _ rfl ?c1) rfl ⟨_,_,_,by rw [HZ.out],?c2⟩
  case c1=>exact row_set _ hpl
  case c2 =>
   rw [HZ.out]
   obtain ⟨q1,q2,q3⟩:=HSt6.out.ret
   exact ⟨q1,q2,q3,Is.nil _ _ _ _⟩
 obtain rfl : 0=es:=by have : es=0:=(by simpa using hne);exact this.symm
 have HX6:=lH (hx6 rfl)
 have hStS : StS lb lq s C.2.1 od 0 0 S:=by rw [← HS.out];exact stl_ok HRt.out.owed (by rw [HS.out];exact HEs.out)
 obtain ⟨L,hL⟩ : ∃ L,L=if id=0 then 0 else lf:=⟨_,rfl⟩
 have hfin:=fin_set (l:=(lb,lq,(bu,se,nn),od)) (fr:=fr) (ow:=ow) (p:=p) (S:=S) (L:=L) HPN.out.side HPN.out.id (by rw [HQ.out.2.1,HQ.out.1];exact hL) (by have:=hStS.pays;omega) (by have:=hStS.gets;omega)
 simp only at hfin
 obtain ⟨E,hE⟩ : ∃ E,setE lb lq ow s fr (ndN s p L+sumP s C.2.1) (sumG s C.2.1)=E:=⟨_,rfl⟩
 rw [hE,HQ.out.2.1] at hfin
 have HE:=lH hE
 have HP3 : Hid (R=if E=0 then ((lb,lq,C.1,S.1),giveL (takeL fr (ow,ndA lb lq s) (ndN s p L+sumP s C.2.1)) (ow,ndA lb lq (othS s)) (sumG s C.2.1),C.2.1,id,0) else ((lb,lq,(bu,se,nn),od),fr,[],0,E)):=lH (by rw [HP2.out,HEs.out,if_pos rfl,hfin])
 have hlf:=HPN.out.left
 rw [HQ.out.1] at hlf
 have hLb : 0≤L∧L≤1048576:=by rw [hL];split<;>omega
 have HVB6:=lH (HVB.out.stays hb6)
 have HL:=lH hL
 have hid0:=HPN.out.id
 rw [HQ.out.2.1] at hid0
 have hpr : 0≤p∧p≤1048576:=by have:=HPN.out.price;omega
 obtain ⟨M7,hM7⟩ : ∃ M,M=w6.alloc (.cells #[.int .i64 0,.int .i64 ow,.int .i64 s,.int .i64 p,.int .i64 0] 70):=⟨_,rfl⟩
 have hbM7 : Below w6.heap.size w6 M7:=hM7 ▸ below1 w6 _
 have hor7 : M7.heap[w6.heap.size]?=some (.cells #[.int .i64 0,.int .i64 ow,.int .i64 s,.int .i64 p,.int .i64 0] 70 (0,0)):=by rw [hM7];exact heap_alloc_new w6 _
 have HM7:=lH hM7
 have HOr7:=lH hor7
 clear hne hx6 hStS hL hE hfin hrow z1 hM7 hor7
 go_upto_region 11 with fail
 rw [← HM7.out]
 by_cases hi0 : id=0
 ·have hdi : (id != 0)=false:=by simpa using hi0
  have hor : M7.heap[w6.heap.size]?=some (.cells #[.int .i64 0,.int .i64 ow,.int .i64 s,.int .i64 p,.int .i64 L] 70 (0,0)):=by rw [HL.out,if_pos hi0];exact HOr7.out
  obtain ⟨U,hU⟩ : ∃ U,U=M7:=⟨_,rfl⟩
  have hb7 : Below w6.heap.size w6 U:=hU ▸ hbM7
  rw [← hU] at hor
  have HU:=lH hU
  clear hi0 hU
  go_upto_region 13 with fail
  rw [← HU.out]
  have HSt7:=lH (HSt6.out.stays hb7)
  have HVB7:=lH (HVB6.out.stays hb7)
  have hrow:=HVB7.out.row
  simp only at hrow
  have z1:=HVB7.out.lt
  have ro : row U w6.heap.size=#[.int .i64 0,.int .i64 ow,.int .i64 s,.int .i64 p,.int .i64 L]:=by unfold Rw.row;rw [hor]
  have zo:=(Array.getElem?_eq_some_iff.1 hor).1
  have hb57:=nx hb56 hb7
  have hcall:=lH (lsettle_any B (lb,lq,(bu,se,nn),od) _ fr _ 0 ow s p L C.2.1 _ U HVB7.out.ln HSt7.out.fr (HB.out U HSt7.out.bel) (HBk.out U hb57).2.2.2 (fun f hf=>HPN.out.fills f hf) HPN.out.cnt (by rw [HFn.out];exact hfm) HPN.out.side hpr hLb E HE.out)
  clear hor
  go_wp2_with fail
  refine hcall.out.mono ?_
  rintro e w8 ⟨a11,n11,c11,rfl,hb8,hf8⟩
  have HSt8:=lH (HSt7.out.stays hb8)
  by_cases hne2 : E≠0
  ·have hde2 : (E != 0)=true:=by simpa using hne2
   have HZ : Hid (R=((lb,lq,(bu,se,nn),od),fr,[],0,E)):=lH (by rw [HP3.out,if_neg hne2])
   clear hne2 hrow z1 ro zo
   have hrow:=HSt8.out.lb.row
   simp only at hrow
   have hpl:=HSt8.out.pl
   obtain ⟨z1,z2⟩:=HSt8.out.lt
   go_wp2
   refine bodyPost_ret (v:=.tuple #[.agg (cN lb lq (.slice a1 n1 c1) (.slice a2 n2 c2) nn (.slice a3 n3 c3)),.slice fa fn fc,.slice none 0 0,.int .i64 0,.int .i64 E]) (ret_N5 Tryz.results16 _ _ rfl ?c1) rfl ⟨_,_,_,by rw [HZ.out],?c2⟩
   case c1=>exact row_set _ hpl
   case c2 =>
    rw [HZ.out]
    obtain ⟨q1,q2,q3⟩:=HSt8.out.ret
    exact ⟨q1,q2,q3,Is.nil _ _ _ _⟩
  obtain rfl : E=0:=by simpa using hne2
  obtain ⟨ht0,hfl8⟩:=hf8 rfl
  obtain ⟨fin',hfin'⟩ : ∃ x,giveL (takeL fr (ow,ndA lb lq s) (ndN s p L+sumP s C.2.1)) (ow,ndA lb lq (othS s)) (sumG s C.2.1)=x:=⟨_,rfl⟩
  rw [hfin'] at hfl8
  have HZ : Hid (R=((lb,lq,C.1,S.1),fin',C.2.1,id,0)):=lH (by rw [HP3.out,if_pos rfl,hfin'])
  have hb68:=nx hb7 hb8
  have hb58:=nx hb56 hb68
  have hvb:=HVB6.out.stays hb68
  have hbk:=HBk.out w8 hb58
  have rb : row w8 w5.heap.size=#[.slice b1 k1 d1,.slice b2 k2 d2,.int .i64 n']:=by unfold Rw.row;rw [hbk.1]
  have zb:=(Array.getElem?_eq_some_iff.1 hbk.1).1
  obtain ⟨m0,m1,m2,m3,m4,m5⟩:=hvb.cells
  simp only at m0 m1 m2 m3 m4 m5
  have mf2:=hvb.free 2
  have mf3:=hvb.free 3
  have mf4:=hvb.free 4
  have mf5:=hvb.free 5
  have zv:=hvb.lt
  obtain ⟨Z1,hZ1⟩ : ∃ Z,Z=((w8.setCell ⟨M5.heap.size,2,none⟩ (.slice b1 k1 d1)).setCell ⟨M5.heap.size,3,none⟩ (.slice b2 k2 d2)).setCell ⟨M5.heap.size,4,none⟩ (.int .i64 n'):=⟨_,rfl⟩
  obtain ⟨j1,j2,j3,j4⟩:=hvb.book (bk':=C.1) (n':=n') hbk.2.1 hbk.2.2.1 HQ.out.2.2.2.1
  rw [← hZ1] at j1 j2 j3 j4
  have hloM:=hvb.lo
  have hx8:=hl_keep (hl_stays HX6.out hb68) (j2 _ (by decide) (Bs.of B.lo) hloM)
  obtain ⟨i1,i2,i3,i4⟩:=j1.owed hx8
  obtain ⟨Z,hZ⟩ : ∃ Z,Z=Z1.setCell ⟨M5.heap.size,5,none⟩ (.slice ax nx' cx):=⟨_,rfl⟩
  rw [← hZ] at i1 i2 i3 i4
  have hv5 : w.heap.size+1<M5.heap.size:=HSt5.out.lt.2
  have hgZ : Z.heap[w.heap.size+1]?=some (.cells (nilN 0 0 0) 28 (0,0)):=(i3 _ (by omega)).trans ((j3 _ (by omega)).trans HSt8.out.g)
  have hflZ:=hl_keep (hl_keep hfl8 (j2 _ (by decide) (Bs.of B.lo) hloM)) (i2 _ (by decide) (Bs.of B.lo) hloM)
  have hfZ:=Is.keep eFl 91 (Is.keep eFl 91 hbk.2.2.2 (j2 _ (by decide) B hloM)) (i2 _ (by decide) B hloM)
  have hbZ:=(HSt8.out.bel.trans (j4 w.heap.size (by omega))).trans (i4 w.heap.size (by omega))
  have hrowZ:=i1.row
  simp only at hrowZ
  rw [HQ.out.2.2.2.1] at hrowZ
  have zz:=i1.lt
  have hplZ : plain 6 Z (w.heap.size+1)=true:=by simp [Rw.plain,hgZ]
  have zg:=(Array.getElem?_eq_some_iff.1 hgZ).1
  have HZ1:=lH i1
  have HZ2:=lH hgZ
  have HZ3:=lH hflZ
  have HZ4:=lH hfZ
  have HZ5':=lH hbZ
  rw [hZ,hZ1] at hrowZ zz hplZ zg
  have HZe:=lH hZ
  have HZe1:=lH hZ1
  clear i1 i2 i3 i4 j1 j2 j3 j4 hgZ hflZ hfZ hbZ hx8 hbk hvb hf8 ht0 hfl8 hZ hZ1 hv5 hrow z1 ro zo hfin' hloM hne2
  go_wp2
  rw [← HZe1.out,← HZe.out]
  refine bodyPost_ret (v:=.tuple #[.agg (cN lb lq (.slice b1 k1 d1) (.slice b2 k2 d2) n' (.slice ax nx' cx)),.slice a11 n11 c11,.slice ga gn gc,.int .i64 id,.int .i64 0]) (ret_N5 Tryz.results16 _ _ rfl ?c1) rfl ⟨_,_,_,by rw [HZ.out],?c2⟩
  case c1 =>
   have hpl' : plain 6 Z (w.heap.size+1)=true:=by simp [Rw.plain,HZ2.out]
   exact row_set _ hpl'
  case c2 =>
   rw [HZ.out]
   have hlo1 : B.lo≤w.heap.size+1:=by have:=HSt5.out.lb.lo;omega
   have hkk : ∀ A : Bs,A.lo≤w.heap.size+1→∀ ts,28 ∉ ts→Da.Keeps A ts Z (Z.setRow (w.heap.size+1) (cN lb lq (.slice b1 k1 d1) (.slice b2 k2 d2) n' (.slice ax nx' cx))):=fun A hA ts ht=>keeps_setRow _ HZ2.out ht hA
   exact ⟨below_setRow HZ5'.out (by omega) _,⟨.slice b1 k1 d1,.slice b2 k2 d2,.slice ax nx' cx,by rw [HQ.out.2.2.2.1],Is.keep eL 98 HZ1.out.l1 (hkk _ hlo1 _ (by decide)),Is.keep eL 98 HZ1.out.l2 (hkk _ hlo1 _ (by decide)),hl_keep HZ1.out.l3 (hkk (Bs.of B.lo) hlo1 _ (by decide))⟩,hl_keep HZ3.out (hkk (Bs.of B.lo) hlo1 _ (by decide)),Is.keep eFl 91 HZ4.out (hkk B hlo1 _ (by decide))⟩
 ·have hdi : (id != 0)=true:=by simpa using hi0
  obtain ⟨U,hU⟩ : ∃ U,U=M7.setCell ⟨w6.heap.size,4,none⟩ (.int .i64 lf):=⟨_,rfl⟩
  have hor : U.heap[w6.heap.size]?=some (.cells #[.int .i64 0,.int .i64 ow,.int .i64 s,.int .i64 p,.int .i64 L] 70 (0,0)):=by
   rw [hU,HL.out,if_neg hi0]
   exact setN 4 (.int .i64 lf) HOr7.out
  have hb7 : Below w6.heap.size w6 U:=by rw [hU];exact hbM7.trans (low_setCell 4 _ (Nat.le_refl _))
  have hf4 : M7.frozen? ⟨w6.heap.size,4,none⟩=false:=by have:=HOr7.out;simp [World.frozen?,this]
  have hc4 : M7.cell? ⟨w6.heap.size,4,none⟩=some (.int .i64 0):=by have:=HOr7.out;simp [World.cell?,this]
  have hz7:=(Array.getElem?_eq_some_iff.1 HOr7.out).1
  have HU:=lH hU
  clear hi0 hU
  go_upto_region 13 with fail
  rw [← HU.out]
  clear hf4 hc4 hz7
  have HSt7:=lH (HSt6.out.stays hb7)
  have HVB7:=lH (HVB6.out.stays hb7)
  have hrow:=HVB7.out.row
  simp only at hrow
  have z1:=HVB7.out.lt
  have ro : row U w6.heap.size=#[.int .i64 0,.int .i64 ow,.int .i64 s,.int .i64 p,.int .i64 L]:=by unfold Rw.row;rw [hor]
  have zo:=(Array.getElem?_eq_some_iff.1 hor).1
  have hb57:=nx hb56 hb7
  have hcall:=lH (lsettle_any B (lb,lq,(bu,se,nn),od) _ fr _ 0 ow s p L C.2.1 _ U HVB7.out.ln HSt7.out.fr (HB.out U HSt7.out.bel) (HBk.out U hb57).2.2.2 (fun f hf=>HPN.out.fills f hf) HPN.out.cnt (by rw [HFn.out];exact hfm) HPN.out.side hpr hLb E HE.out)
  clear hor
  go_wp2_with fail
  refine hcall.out.mono ?_
  rintro e w8 ⟨a11,n11,c11,rfl,hb8,hf8⟩
  have HSt8:=lH (HSt7.out.stays hb8)
  by_cases hne2 : E≠0
  ·have hde2 : (E != 0)=true:=by simpa using hne2
   have HZ : Hid (R=((lb,lq,(bu,se,nn),od),fr,[],0,E)):=lH (by rw [HP3.out,if_neg hne2])
   clear hne2 hrow z1 ro zo
   have hrow:=HSt8.out.lb.row
   simp only at hrow
   have hpl:=HSt8.out.pl
   obtain ⟨z1,z2⟩:=HSt8.out.lt
   go_wp2
   refine bodyPost_ret (v:=.tuple #[.agg (cN lb lq (.slice a1 n1 c1) (.slice a2 n2 c2) nn (.slice a3 n3 c3)),.slice fa fn fc,.slice none 0 0,.int .i64 0,.int .i64 E]) (ret_N5 Tryz.results16 _ _ rfl ?c1) rfl ⟨_,_,_,by rw [HZ.out],?c2⟩
   case c1=>exact row_set _ hpl
   case c2 =>
    rw [HZ.out]
    obtain ⟨q1,q2,q3⟩:=HSt8.out.ret
    exact ⟨q1,q2,q3,Is.nil _ _ _ _⟩
  obtain rfl : E=0:=by simpa using hne2
  obtain ⟨ht0,hfl8⟩:=hf8 rfl
  obtain ⟨fin',hfin'⟩ : ∃ x,giveL (takeL fr (ow,ndA lb lq s) (ndN s p L+sumP s C.2.1)) (ow,ndA lb lq (othS s)) (sumG s C.2.1)=x:=⟨_,rfl⟩
  rw [hfin'] at hfl8
  have HZ : Hid (R=((lb,lq,C.1,S.1),fin',C.2.1,id,0)):=lH (by rw [HP3.out,if_pos rfl,hfin'])
  have hb68:=nx hb7 hb8
  have hb58:=nx hb56 hb68
  have hvb:=HVB6.out.stays hb68
  have hbk:=HBk.out w8 hb58
  have rb : row w8 w5.heap.size=#[.slice b1 k1 d1,.slice b2 k2 d2,.int .i64 n']:=by unfold Rw.row;rw [hbk.1]
  have zb:=(Array.getElem?_eq_some_iff.1 hbk.1).1
  obtain ⟨m0,m1,m2,m3,m4,m5⟩:=hvb.cells
  simp only at m0 m1 m2 m3 m4 m5
  have mf2:=hvb.free 2
  have mf3:=hvb.free 3
  have mf4:=hvb.free 4
  have mf5:=hvb.free 5
  have zv:=hvb.lt
  obtain ⟨Z1,hZ1⟩ : ∃ Z,Z=((w8.setCell ⟨M5.heap.size,2,none⟩ (.slice b1 k1 d1)).setCell ⟨M5.heap.size,3,none⟩ (.slice b2 k2 d2)).setCell ⟨M5.heap.size,4,none⟩ (.int .i64 n'):=⟨_,rfl⟩
  obtain ⟨j1,j2,j3,j4⟩:=hvb.book (bk':=C.1) (n':=n') hbk.2.1 hbk.2.2.1 HQ.out.2.2.2.1
  rw [← hZ1] at j1 j2 j3 j4
  have hloM:=hvb.lo
  have hx8:=hl_keep (hl_stays HX6.out hb68) (j2 _ (by decide) (Bs.of B.lo) hloM)
  obtain ⟨i1,i2,i3,i4⟩:=j1.owed hx8
  obtain ⟨Z,hZ⟩ : ∃ Z,Z=Z1.setCell ⟨M5.heap.size,5,none⟩ (.slice ax nx' cx):=⟨_,rfl⟩
  rw [← hZ] at i1 i2 i3 i4
  have hv5 : w.heap.size+1<M5.heap.size:=HSt5.out.lt.2
  have hgZ : Z.heap[w.heap.size+1]?=some (.cells (nilN 0 0 0) 28 (0,0)):=(i3 _ (by omega)).trans ((j3 _ (by omega)).trans HSt8.out.g)
  have hflZ:=hl_keep (hl_keep hfl8 (j2 _ (by decide) (Bs.of B.lo) hloM)) (i2 _ (by decide) (Bs.of B.lo) hloM)
  have hfZ:=Is.keep eFl 91 (Is.keep eFl 91 hbk.2.2.2 (j2 _ (by decide) B hloM)) (i2 _ (by decide) B hloM)
  have hbZ:=(HSt8.out.bel.trans (j4 w.heap.size (by omega))).trans (i4 w.heap.size (by omega))
  have hrowZ:=i1.row
  simp only at hrowZ
  rw [HQ.out.2.2.2.1] at hrowZ
  have zz:=i1.lt
  have hplZ : plain 6 Z (w.heap.size+1)=true:=by simp [Rw.plain,hgZ]
  have zg:=(Array.getElem?_eq_some_iff.1 hgZ).1
  have HZ1:=lH i1
  have HZ2:=lH hgZ
  have HZ3:=lH hflZ
  have HZ4:=lH hfZ
  have HZ5':=lH hbZ
  rw [hZ,hZ1] at hrowZ zz hplZ zg
  have HZe:=lH hZ
  have HZe1:=lH hZ1
  clear i1 i2 i3 i4 j1 j2 j3 j4 hgZ hflZ hfZ hbZ hx8 hbk hvb hf8 ht0 hfl8 hZ hZ1 hv5 hrow z1 ro zo hfin' hloM hne2
  go_wp2
  rw [← HZe1.out,← HZe.out]
  refine bodyPost_ret (v:=.tuple #[.agg (cN lb lq (.slice b1 k1 d1) (.slice b2 k2 d2) n' (.slice ax nx' cx)),.slice a11 n11 c11,.slice ga gn gc,.int .i64 id,.int .i64 0]) (ret_N5 Tryz.results16 _ _ rfl ?c1) rfl ⟨_,_,_,by rw [HZ.out],?c2⟩
  case c1 =>
   have hpl' : plain 6 Z (w.heap.size+1)=true:=by simp [Rw.plain,HZ2.out]
   exact row_set _ hpl'
  case c2 =>
   rw [HZ.out]
   have hlo1 : B.lo≤w.heap.size+1:=by have:=HSt5.out.lb.lo;omega
   have hkk : ∀ A : Bs,A.lo≤w.heap.size+1→∀ ts,28 ∉ ts→Da.Keeps A ts Z (Z.setRow (w.heap.size+1) (cN lb lq (.slice b1 k1 d1) (.slice b2 k2 d2) n' (.slice ax nx' cx))):=fun A hA ts ht=>keeps_setRow _ HZ2.out ht hA
   exact ⟨below_setRow HZ5'.out (by omega) _,⟨.slice b1 k1 d1,.slice b2 k2 d2,.slice ax nx' cx,by rw [HQ.out.2.2.2.1],Is.keep eL 98 HZ1.out.l1 (hkk _ hlo1 _ (by decide)),Is.keep eL 98 HZ1.out.l2 (hkk _ hlo1 _ (by decide)),hl_keep HZ1.out.l3 (hkk (Bs.of B.lo) hlo1 _ (by decide))⟩,hl_keep HZ3.out (hkk (Bs.of B.lo) hlo1 _ (by decide)),Is.keep eFl 91 HZ4.out (hkk B hlo1 _ (by decide))⟩
theorem len_flat {s : Int} : ∀ {l : List Lv},(∀ v∈l,okLv s v)→l.length≤(flat l).length
 | [],_=>Nat.zero_le _
 | v :: r,h=>by
  have h1:=(h v List.mem_cons_self).1
  have h2:=len_flat (l:=r) fun x hx=>h x (List.mem_cons_of_mem _ hx)
  have h3:=List.length_pos_iff.2 h1
  rw [flat_cons,List.length_append,List.length_cons];omega
theorem sm_right {l : Ln} (h : RightN l) : Sm l:=by
 have hb:=h.book
 have hc:=hb.cnt
 unfold cntB at hc
 have h1 : l.2.2.1.1.length≤(flat l.2.2.1.1).length:=len_flat hb.buys.2.1
 have h2 : l.2.2.1.2.1.length≤(flat l.2.2.1.2.1).length:=len_flat hb.sells.2.1
 have h3:=Ac.right_512 h.owed
 exact ⟨by omega,by omega,by omega,by omega,by omega⟩
def NP (B : Bs) (m : Ln) (fr : List Hd) (fl : List Fl) (n e : Int) (v : Value) (u : World) : Prop :=
 ∃ a1 n1 c1 a2 n2 c2 a3 n3 c3 a4 n4 c4 a5 c5,v=.tuple #[.agg (cN m.1 m.2.1 (.slice a1 n1 c1) (.slice a2 n2 c2) m.2.2.1.2.2 (.slice a3 n3 c3)),.slice a4 n4 c4,.slice a5 fl.length c5,.int .i64 n,.int .i64 e] ∧
  LL B m.2.2.1.1 (.slice a1 n1 c1) u∧LL B m.2.2.1.2.1 (.slice a2 n2 c2) u∧HL B.lo m.2.2.2 (.slice a3 n3 c3) u∧HL B.lo fr (.slice a4 n4 c4) u
theorem NP.stays {B : Bs} {m : Ln} {fr : List Hd} {fl : List Fl} {n e : Int} {v : Value} {u u' : World} (h : NP B m fr fl n e v u) (hb : Below u.heap.size u u') : NP B m fr fl n e v u':=by
 obtain ⟨a1,n1,c1,a2,n2,c2,a3,n3,c3,a4,n4,c4,a5,c5,hv,h1,h2,h3,h4⟩:=h
 exact ⟨a1,n1,c1,a2,n2,c2,a3,n3,c3,a4,n4,c4,a5,c5,hv,Is.stays eL 98 h1 hb,Is.stays eL 98 h2 hb,hl_stays h3 hb,hl_stays h4 hb⟩
theorem NP.inv {B : Bs} {m : Ln} {fr : List Hd} {fl : List Fl} {n e i j k : Int} {a1 a2 a3 a4 a5 : Option Addr} {n1 c1 n2 c2 n3 c3 n4 c4 n5 c5 : Nat} {p q : Int} {u : World}
  (h : NP B m fr fl n e (.tuple #[.agg (cN i j (.slice a1 n1 c1) (.slice a2 n2 c2) k (.slice a3 n3 c3)),.slice a4 n4 c4,.slice a5 n5 c5,.int .i64 p,.int .i64 q]) u) :
  LL B m.2.2.1.1 (.slice a1 n1 c1) u∧LL B m.2.2.1.2.1 (.slice a2 n2 c2) u∧HL B.lo m.2.2.2 (.slice a3 n3 c3) u∧HL B.lo fr (.slice a4 n4 c4) u:=by
 obtain ⟨x1,y1,z1,x2,y2,z2,x3,y3,z3,x4,y4,z4,x5,z5,hv,h1,h2,h3,h4⟩:=h
 simp only [Value.tuple.injEq,Array.mk.injEq,List.cons.injEq,Value.agg.injEq,cN,Value.slice.injEq,and_true] at hv
 obtain ⟨⟨-,-,⟨rfl,rfl,rfl⟩,⟨rfl,rfl,rfl⟩,-,⟨rfl,rfl,rfl⟩⟩,⟨rfl,rfl,rfl⟩,-⟩:=hv
 exact ⟨h1,h2,h3,h4⟩
theorem nplace_is {l m : Ln} {fr fr' : List Hd} {fl : List Fl} {n e ow s p q : Int} {rest : Bool} (h : Hid (placeN l fr ow s p q rest=(m,fr',fl,n,e))) (B : Bs) (v fv : Value) (w : World) (hv : LN B l v w) (hf : HL B.lo fr fv w) (hB : B.le w.heap.size) (hs : Sm l) (hm : fr.length≤1000) :
  Calls Tryz.prog 16 #[v,fv,.int .i64 ow,.int .i64 s,.int .i64 p,.int .i64 q,.bool rest] w (Post (NP B m fr' fl n e) w):=by
 refine (lplace_any B l v fr fv ow s p q rest w hv hf hB hs hm).mono ?_
 intro e' w' k
 rw [h.out] at k
 obtain ⟨x,y,z,rfl,hb,h1,h2,h3⟩:=k
 obtain ⟨a1,n1,c1,a2,n2,c2,a3,n3,c3,rfl,-,-,-,h4,h5,h6⟩:=h1.open'
 obtain ⟨a4,c4,rfl⟩:=hl_slice h2
 obtain ⟨a5,c5,rfl⟩:=h3.len
 exact ⟨_,rfl,hb,_,_,_,_,_,_,_,_,_,_,_,_,_,_,rfl,h4,h5,h6,h2⟩
theorem ncollect_is {l m : Ln} {fr fr' : List Hd} {n1 n2 e ow : Int} (h : Hid (collectN l fr ow=(m,fr',n1,n2,e))) (B : Bs) (v fv : Value) (w : World) (hv : LN B l v w) (hf : HL B.lo fr fv w) (hB : B.le w.heap.size) (hs : Sm l) (hm : fr.length≤1000) :
  Calls Tryz.prog 14 #[v,fv,.int .i64 ow] w fun e' w'=>∃ a1 n1' c1 a2 n2' c2 a3 n3 c3 a4 n4 c4,e'=.returned (.tuple #[.agg (cN m.1 m.2.1 (.slice a1 n1' c1) (.slice a2 n2' c2) m.2.2.1.2.2 (.slice a3 n3 c3)),.slice a4 n4 c4,.int .i64 n1,.int .i64 n2,.int .i64 e])∧Below w.heap.size w w' ∧
   LL B m.2.2.1.1 (.slice a1 n1' c1) w'∧LL B m.2.2.1.2.1 (.slice a2 n2' c2) w'∧HL B.lo m.2.2.2 (.slice a3 n3 c3) w'∧HL B.lo fr' (.slice a4 n4 c4) w':=by
 refine (lcollect_any B l v fr fv ow w hv hf hB hs hm).mono ?_
 intro e' w' k
 rw [h.out] at k
 obtain ⟨x,y,rfl,hb,h1,h2⟩:=k
 obtain ⟨a1,n1,c1,a2,n2,c2,a3,n3,c3,rfl,-,-,-,h4,h5,h6⟩:=h1.open'
 obtain ⟨a4,c4,rfl⟩:=hl_slice h2
 exact ⟨_,_,_,_,_,_,_,_,_,_,_,_,rfl,hb,h4,h5,h6,h2⟩
def AwP (B : Bs) (m : Ln) (fr : List Hd) (fl : List Fl) (s : Nat) (w : World) (f g i e : Value) (u : World) : Prop :=
 ∃ a1 n1 c1 a2 n2 c2 a3 n3 c3 a4 n4 c4 a5 c5,f=.slice a4 n4 c4∧g=.slice a5 fl.length c5∧i=.int .i64 1∧e=.int .i64 0∧LB B m (.slice a1 n1 c1) (.slice a2 n2 c2) (.slice a3 n3 c3) s u∧HL B.lo fr f u∧Below w.heap.size w u
theorem box_put {B : Bs} {l m : Ln} {x y o x' y' o' f : Value} {s : Nat} {fr : List Hd} {w u : World} (h : LB B l x y o s u) (hs : w.heap.size≤s) (hb : Below w.heap.size w u) (h1 : LL B m.2.2.1.1 x' u) (h2 : LL B m.2.2.1.2.1 y' u) (h3 : HL B.lo m.2.2.2 o' u) (h4 : HL B.lo fr f u) :
  LB B m x' y' o' s (u.setRow s (cN m.1 m.2.1 x' y' m.2.2.1.2.2 o'))∧HL B.lo fr f (u.setRow s (cN m.1 m.2.1 x' y' m.2.2.1.2.2 o'))∧Below w.heap.size w (u.setRow s (cN m.1 m.2.1 x' y' m.2.2.1.2.2 o')) :=
 ⟨LB.put h.bk h.lo h1 h2 h3,hl_keep h4 (keeps_setRow _ h.bk (by decide) h.lo),below_setRow hb hs _⟩
theorem awake_any (w : World) : Calls Tryz.prog 10 #[] w fun e w'=>e=.returned (.bool true)∧Below w.heap.size w w':=by
 obtain ⟨B,hB⟩ : ∃ B,B=Bs.of w.heap.size:=⟨_,rfl⟩
 have hle : B.le w.heap.size:=by rw [hB];exact Bs.of_le _
 have HB:=lH (show ∀ u,Below w.heap.size w u→B.le u.heap.size from fun u hu=>hle.mono hu.size)
 have HN:=lH (lnew_any 1 2 w)
 have HLe:=lH hle
 clear hB hle
 go_enter Tryz.func10,Tryz.ntmps10
 go_wp2_with fail
 refine HN.out.mono ?_
 rintro e w1 ⟨v1,rfl,hb1,hln⟩
 have hln1 : LN B ln0 v1 w1:=hln B HLe.out
 obtain ⟨a1,n1,c1,a2,n2,c2,a3,n3,c3,rfl,-,-,-,hk1,hk2,hk3⟩:=hln1.open'
 rw [show newE 1 2=0 from rfl]
 obtain ⟨M1,hM1⟩ : ∃ M,M=w1.alloc (.cells (cN 1 2 (.slice a1 n1 c1) (.slice a2 n2 c2) 1 (.slice a3 n3 c3)) 28):=⟨_,rfl⟩
 have hbM1 : Below w.heap.size w M1:=nx hb1 (hM1 ▸ below1 w1 _)
 have HX1:=lH (show LB B ln0 (.slice a1 n1 c1) (.slice a2 n2 c2) (.slice a3 n3 c3) w1.heap.size M1 from by rw [hM1];exact LB.made (l:=ln0) hk1 hk2 hk3 (HB.out w1 hb1).1)
 have HM1:=lH hM1
 obtain ⟨s,hs⟩ : ∃ s,w1.heap.size=s:=⟨_,rfl⟩
 rw [hs] at HX1
 have hsz : w.heap.size≤s:=by have:=hb1.size;omega
 have HS0:=lH (sm_right awR0)
 have HS1:=lH (sm_right awK1.right)
 have HS2:=lH (sm_right awK2.right)
 clear hln hln1 hk1 hk2 hk3 hM1
 go_upto_region 2 with fail
 rw [← HM1.out]
 go_cut [3,4,5,6] (AwP B ln1 fr1 [] s w)
 case first =>
  as_aux_lemma =>
   refine Rh.rg (fun _=>True) (fun u=>Below M1.heap.size M1 u) (fun _ _ _ _=>trivial) (fun _ _ h k=>nx h k) (trivial) ((Below.refl _ _).drew) [0,1,2,3,4,5,6,7,8,9,10,11,12,13] ?_
   refine steps_two (i:=0) (j:=1) (ord':=[0,2,3,4,5,6,7,8,9,10,11,12,13]) (by kernel_rfl) rfl ?_ ?_
   ·refine Rh.One.val (fun v _=>v=.agg (cN 1 2 (.slice a1 n1 c1) (.slice a2 n2 c2) 1 (.slice a3 n3 c3))) (fun _ _ _ h _=>h) (by rfl) (by rfl) ?_ ?_
    ·intro w_ _ hG_
     have r0:=(HX1.out.stays hG_).row
     refine ⟨.agg (cN 1 2 (.slice a1 n1 c1) (.slice a2 n2 c2) 1 (.slice a3 n3 c3)),w_,?_,Below.refl _ _,rfl⟩
     go_simp
    intro v0 u0 hv0
    subst hv0
    simp only [Act.put,sA,sB,sC]
    refine Rh.Steps.forced (i:=1) (by kernel_rfl) ?_
    refine Rh.One.call (fun v u=>HL B.lo (richK 100 4) v u) (fun v _ _ h k=>hl_stays h k) (f:=?_) (args:=?_) (by rfl) (by rfl) ?_ ?_ ?_
    rotate_left 2
    ·intro w_ hS_ hG_;go_simp<;>first | with_reducible rfl | (constructor<;>with_reducible rfl)
    ·intro w_ hS_ hG_;(go_at_call 11;refine (rich_any (lo:=B.lo) 100 w_).mono ?_;rintro e w' ⟨v,rfl,hb9,ho⟩;exact ⟨v,rfl,hb9,ho⟩)
    intro v1 u_ hv1
    simp only [Act.put,sA,sB,sC]
    refine Rh.Steps.forced (i:=2) (by kernel_rfl) ?_
    refine Rh.One.call (NP B ln1 fr1 [] 1 0) (fun v _ _ h k=>h.stays k) (f:=?_) (args:=?_) (by rfl) (by rfl) ?_ ?_ ?_
    rotate_left 2
    ·intro w_ hS_ hG_;go_simp<;>first | with_reducible rfl | (constructor<;>with_reducible rfl)
    ·intro w_ hS_ hG_;(go_at_call 16;refine (nplace_is (lH aw1) B _ _ w_ (HX1.out.stays hG_.1.1).ln hG_.2 (HB.out w_ (nx hbM1 hG_.1.1)) HS0.out (rich_len _ _)).mono ?_;rintro e w' ⟨v,rfl,hb9,ho⟩;exact ⟨v,rfl,hb9,ho⟩)
    intro v2 u_ hv2
    simp only [Act.put,sA,sB,sC]
    obtain ⟨b1,m1,d1,b2,m2,d2,b3,m3,d3,b4,m4,d4,b5,d5,rfl,-,-,-,-⟩:=hv2
    repeat (first | (refine Rh.Steps.sk ?_;simp only [Act.put,sA,sB,sC]) | (refine Rh.Steps.pu (v:=?_) ?_ ?_;rotate_left;(intro w_ hS_;skip;go_simp<;>with_reducible rfl);simp only [Act.put,sA,sB,sC]))
    refine Rh.Steps.forced (i:=9) (by kernel_rfl) ?_
    refine Rh.One.store (fun u=>LB B ln1 (.slice b1 m1 d1) (.slice b2 m2 d2) (.slice b3 m3 d3) s u∧HL B.lo fr1 (.slice b4 m4 d4) u∧Below w.heap.size w u) (fun _ _ h k=>⟨h.1.stays k,hl_stays h.2.1 k,nx h.2.2 k⟩) (by rfl) (by rfl) ?_ ?_
    ·intro w_ _ hG_
     have hx:=HX1.out.stays hG_.1.1.1
     obtain ⟨h1,h2,h3,h4⟩:=hG_.2.inv
     have hbw:=nx hbM1 hG_.1.1.1
     have hp:=hx.plain
     refine ⟨w_.setRow s (cN 1 2 (.slice b1 m1 d1) (.slice b2 m2 d2) 2 (.slice b3 m3 d3)),?_,trivial,box_put (m:=ln1) hx hsz hbw h1 h2 h3 h4⟩
     clear hG_ hx h1 h2 h3 h4 hbw
     go_simp
    repeat (first | (refine Rh.Steps.sk ?_;simp only [Act.put,sA,sB,sC]) | (refine Rh.Steps.pu (v:=?_) ?_ ?_;rotate_left;(intro w_ hS_;skip;go_simp<;>with_reducible rfl);simp only [Act.put,sA,sB,sC]))
    refine Rh.Steps.nil (by kernel_rfl) ?_
    intro w9 _ hG9
    go_wp2_with fail
    go_meet
    exact ⟨b1,m1,d1,b2,m2,d2,b3,m3,d3,b4,m4,d4,b5,d5,rfl,rfl,rfl,rfl,hG9.1,hG9.2.1,hG9.2.2⟩
   ·refine Rh.One.call (fun v u=>HL B.lo (richK 100 4) v u) (fun v _ _ h k=>hl_stays h k) (f:=?_) (args:=?_) (by rfl) (by rfl) ?_ ?_ ?_
    rotate_left 2
    ·intro w_ hS_ hG_;go_simp<;>first | with_reducible rfl | (constructor<;>with_reducible rfl)
    ·intro w_ hS_ hG_;(go_at_call 11;refine (rich_any (lo:=B.lo) 100 w_).mono ?_;rintro e w' ⟨v,rfl,hb9,ho⟩;exact ⟨v,rfl,hb9,ho⟩)
    intro v1 u_ hv1
    simp only [Act.put,sA,sB,sC]
    refine Rh.Steps.forced (i:=0) (by kernel_rfl) ?_
    refine Rh.One.val (fun v _=>v=.agg (cN 1 2 (.slice a1 n1 c1) (.slice a2 n2 c2) 1 (.slice a3 n3 c3))) (fun _ _ _ h _=>h) (by rfl) (by rfl) ?_ ?_
    ·intro w_ _ hG_
     have r0:=(HX1.out.stays hG_.1).row
     refine ⟨.agg (cN 1 2 (.slice a1 n1 c1) (.slice a2 n2 c2) 1 (.slice a3 n3 c3)),w_,?_,Below.refl _ _,rfl⟩
     clear hG_
     go_simp
    intro v0 u0 hv0
    subst hv0
    simp only [Act.put,sA,sB,sC]
    refine Rh.Steps.forced (i:=2) (by kernel_rfl) ?_
    refine Rh.One.call (NP B ln1 fr1 [] 1 0) (fun v _ _ h k=>h.stays k) (f:=?_) (args:=?_) (by rfl) (by rfl) ?_ ?_ ?_
    rotate_left 2
    ·intro w_ hS_ hG_;go_simp<;>first | with_reducible rfl | (constructor<;>with_reducible rfl)
    ·intro w_ hS_ hG_;(go_at_call 16;refine (nplace_is (lH aw1) B _ _ w_ (HX1.out.stays hG_.1.1).ln hG_.1.2 (HB.out w_ (nx hbM1 hG_.1.1)) HS0.out (rich_len _ _)).mono ?_;rintro e w' ⟨v,rfl,hb9,ho⟩;exact ⟨v,rfl,hb9,ho⟩)
    intro v2 u_ hv2
    simp only [Act.put,sA,sB,sC]
    obtain ⟨b1,m1,d1,b2,m2,d2,b3,m3,d3,b4,m4,d4,b5,d5,rfl,-,-,-,-⟩:=hv2
    repeat (first | (refine Rh.Steps.sk ?_;simp only [Act.put,sA,sB,sC]) | (refine Rh.Steps.pu (v:=?_) ?_ ?_;rotate_left;(intro w_ hS_;skip;go_simp<;>with_reducible rfl);simp only [Act.put,sA,sB,sC]))
    refine Rh.Steps.forced (i:=9) (by kernel_rfl) ?_
    refine Rh.One.store (fun u=>LB B ln1 (.slice b1 m1 d1) (.slice b2 m2 d2) (.slice b3 m3 d3) s u∧HL B.lo fr1 (.slice b4 m4 d4) u∧Below w.heap.size w u) (fun _ _ h k=>⟨h.1.stays k,hl_stays h.2.1 k,nx h.2.2 k⟩) (by rfl) (by rfl) ?_ ?_
    ·intro w_ _ hG_
     have hx:=HX1.out.stays hG_.1.1.1
     obtain ⟨h1,h2,h3,h4⟩:=hG_.2.inv
     have hbw:=nx hbM1 hG_.1.1.1
     have hp:=hx.plain
     refine ⟨w_.setRow s (cN 1 2 (.slice b1 m1 d1) (.slice b2 m2 d2) 2 (.slice b3 m3 d3)),?_,trivial,box_put (m:=ln1) hx hsz hbw h1 h2 h3 h4⟩
     clear hG_ hx h1 h2 h3 h4 hbw
     go_simp
    repeat (first | (refine Rh.Steps.sk ?_;simp only [Act.put,sA,sB,sC]) | (refine Rh.Steps.pu (v:=?_) ?_ ?_;rotate_left;(intro w_ hS_;skip;go_simp<;>with_reducible rfl);simp only [Act.put,sA,sB,sC]))
    refine Rh.Steps.nil (by kernel_rfl) ?_
    intro w9 _ hG9
    go_wp2_with fail
    go_meet
    exact ⟨b1,m1,d1,b2,m2,d2,b3,m3,d3,b4,m4,d4,b5,d5,rfl,rfl,rfl,rfl,hG9.1,hG9.2.1,hG9.2.2⟩
 case rest =>
  obtain ⟨b1,m1,d1,b2,m2,d2,b3,m3,d3,b4,m4,d4,b5,d5,rfl,rfl,rfl,rfl,hx,hf,hb⟩:=hcut
  have HX2:=lH hx
  have HF2:=lH hf
  have r0:=hx.row
  have z0:=hx.lt
  have p0:=hx.plain
  clear hx hf
  go_wp2_with fail
  refine (nplace_is (lH aw2) B _ _ wc HX2.out.ln HF2.out (HB.out wc hb) HS1.out (by decide)).mono ?_
  rintro e w3 ⟨v,rfl,hd,b6,m6,d6,b7,m7,d7,b8,m8,d8,b9,m9,d9,b10,d10,rfl,h1,h2,h3,h4⟩
  have hx3:=HX2.out.stays hd
  have hb3:=nx hb hd
  obtain ⟨N,hN⟩ : ∃ N,N=w3.setRow s (cN 1 2 (.slice b6 m6 d6) (.slice b7 m7 d7) 2 (.slice b8 m8 d8)):=⟨_,rfl⟩
  obtain ⟨hxN,hfN,hbN⟩:=box_put (m:=ln2) hx3 hsz hb3 h1 h2 h3 h4
  replace hxN : LB B ln2 (.slice b6 m6 d6) (.slice b7 m7 d7) (.slice b8 m8 d8) s N:=by rw [hN];exact hxN
  replace hfN : HL B.lo fr2 (.slice b9 m9 d9) N:=by rw [hN];exact hfN
  replace hbN : Below w.heap.size w N:=by rw [hN];exact hbN
  have HXN:=lH hxN
  have HFN:=lH hfN
  have HN':=lH hN
  have z3:=hx3.lt
  have p3:=hx3.plain
  clear r0 z0 p0 h1 h2 h3 h4 hx3 hb3 hd hfN
  have r0:=hxN.row
  rw [hN] at r0
  clear hxN hN
  go_wp2_with fail
  rw [← HN'.out]
  refine (ncollect_is (lH aw3) B _ _ N HXN.out.ln HFN.out (HB.out N hbN) HS2.out (by decide)).mono ?_
  rintro e w4 ⟨e1,k1,g1,e2,k2,g2,e3,k3,g3,e4,k4,g4,rfl,hd,h1,h2,h3,h4⟩
  have hx4:=HXN.out.stays hd
  have hb4:=nx hbN hd
  obtain ⟨M,hM⟩ : ∃ M,M=w4.setRow s (cN 1 2 (.slice e1 k1 g1) (.slice e2 k2 g2) 2 (.slice e3 k3 g3)):=⟨_,rfl⟩
  obtain ⟨hxM,hfM,hbM⟩:=box_put (m:=ln3) hx4 hsz hb4 h1 h2 h3 h4
  replace hxM : LB B ln3 (.slice e1 k1 g1) (.slice e2 k2 g2) (.slice e3 k3 g3) s M:=by rw [hM];exact hxM
  replace hfM : HL B.lo fr3 (.slice e4 k4 g4) M:=by rw [hM];exact hfM
  replace hbM : Below w.heap.size w M:=by rw [hM];exact hbM
  have HXM:=lH hxM
  have HFM:=lH hfM
  have HM':=lH hM
  have z4:=hx4.lt
  have p4:=hx4.plain
  clear r0 z3 p3 h1 h2 h3 h4 hx4 hb4 hd hfM
  have r0:=hxM.row
  rw [hM] at r0
  clear hxM hM
  go_wp2_with fail
  rw [← HM'.out]
  refine (Ac.get_any fr3 _ 1 2 M HFM.out (by decide)).mono ?_
  rintro e w5 ⟨rfl,hb5⟩
  rw [aw4]
  have hf5:=lH (hl_stays HFM.out hb5)
  have hx5:=lH (HXM.out.stays hb5)
  have hbw5:=nx hbM hb5
  clear r0 z4 p4 hb5
  go_wp2_with fail
  refine (Ac.get_any fr3 _ 2 2 w5 hf5.out (by decide)).mono ?_
  rintro e w6 ⟨rfl,hb6⟩
  rw [aw5]
  have hx6:=lH (hx5.out.stays hb6)
  have hbw6:=nx hbw5 hb6
  have r0:=hx6.out.row
  clear hb6
  go_wp2_with fail
  refine (lright_any B ln3 _ w6 hx6.out.ln (HB.out w6 hbw6) (sm_right awK3.right)).mono ?_
  rintro e w7 ⟨rfl,hb7⟩
  rw [aw6]
  have hbw7:=nx hbw6 hb7
  clear r0 hb7
  go_wp2_with fail
  go_ret
  exact ⟨rfl,hbw7⟩
end Go.Proofs.YthecinmekoaphaaGreat.La
