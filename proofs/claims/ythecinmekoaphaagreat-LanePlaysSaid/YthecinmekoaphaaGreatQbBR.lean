/- The document's own of layer 10: Collect. -/
import Derived.Test.YthecinmekoaphaaGreatQbZZ
import Derived.Test.YthecinmekoaphaaGreatQbBM
import Derived.Test.YthecinmekoaphaaGreatQbBQ
set_option linter.unusedVariables false
set_option maxRecDepth 16000
set_option maxHeartbeats 32000000
namespace Go.Proofs.YthecinmekoaphaaGreat.La
open Go.RowKit
open Rw
open Da
open Le
open Bk
open Ac (Hd Pu HL pmay pmay_iff tot total giveE giveL takeE takeL)
def PostCo (B : Bs) (c : Ln × List Hd × Int × Int × Int) (w : World) (e : Ending) (w' : World) : Prop :=
 ∃ v fv,e=.returned (.tuple #[v,fv,.int .i64 c.2.2.1,.int .i64 c.2.2.2.1,.int .i64 c.2.2.2.2])∧Below w.heap.size w w'∧LN B c.1 v w'∧HL B.lo c.2.1 fv w'
theorem St0.otherC {B : Bs} {l : Ln} {x y o : Value} {s : Nat} {fr : List Hd} {fv : Value} {w wr : World} {k i : Nat} {v : Value} {c0 : Array Value} (h : St0 B l x y o s fr fv w wr) (hk : s<k) (hk1 : s+1<k) (hc : wr.heap[k]?=some (.cells c0 28 (0,0))) : St0 B l x y o s fr fv w (wr.setCell ⟨k,i,none⟩ v) :=
 have hlo : B.lo≤k:=Nat.le_trans h.lb.lo (Nat.le_of_lt hk)
 ⟨h.lb.otherC (by omega) hlo hc,(Below.heap_setCell wr ⟨k,i,none⟩ v (s+1) (by show s+1≠k;omega)).trans h.g,hl_keep h.fr (keeps_setCell i v hc (by decide) hlo),h.bel.trans (low_setCell i v (Nat.le_of_lt hk))⟩
theorem take_len {l : List Hd} {p : Pu} {n : Int} (hr : Ac.Right l) : (takeL l p n).length≤1000:=by
 have h0:=Ac.right_512 hr
 by_cases h : takeE l p n=0
 ·obtain ⟨_,h2,_⟩:=take_ok h
  have:=Ac.right_512 (Ac.take_done hr h2 h).1
  omega
 ·rw [Ac.take_none h];omega
theorem rCollect10_any (B : Bs) (l : Ln) (v : Value) (fr : List Hd) (fv : Value) (ow : Int) (w : World) (h : LN B l v w) (hfr : HL B.lo fr fv w) (hB : B.le w.heap.size) (hs : Sm l) (hfm : fr.length≤1000) :
  Calls Tryz.prog 15 #[v,fv,.int .i64 ow] w (PostCo B (collectN l fr ow) w):=by
 have HSm:=lH hs
 obtain ⟨R,hR⟩ : ∃ R,collectN l fr ow=R:=⟨_,rfl⟩
 have HR:=lH hR
 rw [hR]
 obtain ⟨r1,hr1⟩ : ∃ r,rightN l=r:=⟨_,rfl⟩
 obtain ⟨r2,hr2⟩ : ∃ r,Ac.right fr=r:=⟨_,rfl⟩
 have HR1:=lH hr1
 have HR2:=lH hr2
 clear hR hr1 hr2
 have hm1:=hs.m1
 have hm2:=hs.m2
 have hm3:=hs.m3
 have hm4:=hs.m4
 have hm5:=hs.m5
 obtain ⟨lb,lq,⟨bu,se,nn⟩,od⟩:=l
 simp only at hm1 hm2 hm3 hm4 hm5
 obtain ⟨a1,n1,c1,a2,n2,c2,a3,n3,c3,rfl,e1,e2,e3,hl1,hl2,hl3⟩:=h.open'
 simp only at e1 e2 e3 hl1 hl2 hl3
 obtain ⟨V,hV⟩ : ∃ V,V=(w.alloc (.cells (cN lb lq (.slice a1 n1 c1) (.slice a2 n2 c2) nn (.slice a3 n3 c3)) 28)).alloc (.cells (nilN 0 0 0) 28):=⟨_,rfl⟩
 have hbV : Below w.heap.size w V:=hV ▸ below2 w _ _
 have hzV : V.heap.size=w.heap.size+2:=by rw [hV];simp
 have hx0 : LB B (lb,lq,(bu,se,nn),od) (.slice a1 n1 c1) (.slice a2 n2 c2) (.slice a3 n3 c3) w.heap.size V:=by rw [hV];exact (LB.made hl1 hl2 hl3 hB.1).stays (below1 _ _)
 have hg0 : V.heap[w.heap.size+1]?=some (.cells (nilN 0 0 0) 28 (0,0)):=by
  have:=heap_alloc_new (w.alloc (.cells (cN lb lq (.slice a1 n1 c1) (.slice a2 n2 c2) nn (.slice a3 n3 c3)) 28)) (.cells (nilN 0 0 0) 28)
  rw [World.size_alloc] at this
  rw [hV];exact this
 have HB:=lH (show ∀ u,Below w.heap.size w u→B.le u.heap.size from fun u hu=>hB.mono hu.size)
 have HSt0:=lH (show St0 B (lb,lq,(bu,se,nn),od) (.slice a1 n1 c1) (.slice a2 n2 c2) (.slice a3 n3 c3) w.heap.size fr fv w V from ⟨hx0,hg0,hl_stays hfr hbV,hbV⟩)
 obtain ⟨fa,fc,rfl⟩:=hl_slice hfr
 obtain ⟨fn,hfn⟩ : ∃ fn,fr.length=fn:=⟨_,rfl⟩
 rw [hfn] at HSt0 ⊢
 have HFn:=lH hfn
 have r0:=hx0.row
 simp only at r0
 rw [hV] at r0
 have HV:=lH hV
 clear hx0 hg0 hl1 hl2 hl3 h hfr hB e1 e2 e3 hV hfn hs
 go_enter Tryz.func15,Tryz.ntmps15
 go_wp2_with fail
 rw [← HV.out]
 refine (rOwn10_any B (lb,lq,(bu,se,nn),od) _ V HSt0.out.lb.ln (HB.out V hbV) (by show bu.length≤_;omega) (by show (flat bu).length≤_;omega) (by show se.length≤_;omega) (by show (flat se).length≤_;omega) (by show od.length≤_;omega)).mono ?_
 rintro e w1 ⟨v1,rfl,hb1,hln1⟩
 clear r0
 obtain ⟨a4,n4,c4,a5,n5,c5,a6,n6,c6,ev,e1,e2,e3,hl1,hl2,hl3⟩:=hln1.open'
 simp only at ev e1 e2 e3 hl1 hl2 hl3
 subst ev
 have hst1:=HSt0.out.stays hb1
 obtain ⟨X,hX⟩ : ∃ X,X=w1.setRow w.heap.size (cN lb lq (.slice a4 n4 c4) (.slice a5 n5 c5) nn (.slice a6 n6 c6)):=⟨_,rfl⟩
 have hpl1:=hst1.lb.plain
 have hxX : LB B (lb,lq,(bu,se,nn),od) (.slice a4 n4 c4) (.slice a5 n5 c5) (.slice a6 n6 c6) w.heap.size X:=by rw [hX];exact LB.put (m:=(lb,lq,(bu,se,nn),od)) hst1.lb.bk hst1.lb.lo hl1 hl2 hl3
 have hlo:=hst1.lb.lo
 have hbX : Below w.heap.size w X:=by rw [hX];exact below_setRow hst1.bel (Nat.le_refl _) _
 have hgX : X.heap[w.heap.size+1]?=some (.cells (nilN 0 0 0) 28 (0,0)):=by rw [hX,setRow_other _ _ _ _ (by omega)];exact hst1.g
 have hfX : HL B.lo fr (.slice fa fn fc) X:=by rw [hX];exact hl_keep hst1.fr (keeps_setRow _ hst1.lb.bk (by decide) hlo)
 have hzX : X.heap.size=w1.heap.size:=by rw [hX];exact setRow_size _ _ _
 have hz1 : w.heap.size<w1.heap.size:=hst1.lt.1
 have HX:=lH hX
 have HXX:=lH hxX
 have HGX:=lH hgX
 obtain ⟨a7,c7,w2,hrun,hh2,hb2⟩:=own_h (w:=X) hfX (by omega) (by omega)
 rw [HFn.out] at hrun hh2
 have HStA:=lH (show St0 B (lb,lq,(bu,se,nn),od) (.slice a4 n4 c4) (.slice a5 n5 c5) (.slice a6 n6 c6) w.heap.size fr (.slice a7 fn c7) w w2 from ⟨hxX.stays hb2,(hb2.block _ (Array.getElem?_eq_some_iff.1 hgX).1).trans hgX,hh2,nx hbX hb2⟩)
 rw [hzX] at hrun
 clear e1 e2 e3 hl1 hl2 hl3 hst1 hX hxX hgX hfX hh2 hln1
 go_upto_region 2 with fail
 rw [← HX.out]
 have r0:=HStA.out.lb.row
 simp only at r0
 have hbA : Below w.heap.size w w2:=HStA.out.bel
 go_wp2_with fail
 refine (rRight10_is HR1 HStA.out.lb.ln (HB.out w2 hbA) HSm.out).mono ?_
 rintro e w3 ⟨rfl,hb3⟩
 have HSt3:=lH (HStA.out.stays hb3)
 clear r0 hrun hpl1
 cases r1
 ·have HZ : Hid (R=((lb,lq,(bu,se,nn),od),fr,0,0,1)):=lH (by rw [← HR.out];unfold collectN;rw [HR1.out,Bool.false_and,if_neg (by decide)])
  have hrow:=HSt3.out.lb.row
  simp only at hrow
  have hpl:=HSt3.out.pl
  obtain ⟨z1,z2⟩:=HSt3.out.lt
  go_wp2
  refine bodyPost_ret (v:=.tuple #[.agg (cN lb lq (.slice a4 n4 c4) (.slice a5 n5 c5) nn (.slice a6 n6 c6)),.slice a7 fn c7,.int .i64 0,.int .i64 0,.int .i64 1]) (ret_N5 Tryz.results15 _ _ rfl ?c1) rfl ⟨_,_,by rw [HZ.out],?c2⟩
  case c1=>exact row_set _ hpl
  case c2 =>
   rw [HZ.out]
   exact HSt3.out.ret
 go_wp2_with fail
 refine (Ac.rRight_is HR2 w3 HSt3.out.fr (by unfold maxLen;omega)).mono ?_
 rintro e w4 ⟨rfl,hb4⟩
 have HSt4:=lH (HSt3.out.stays hb4)
 cases r2
 ·have HZ : Hid (R=((lb,lq,(bu,se,nn),od),fr,0,0,1)):=lH (by rw [← HR.out];unfold collectN;rw [HR1.out,HR2.out,Bool.and_false,if_neg (by decide)])
  have hrow:=HSt4.out.lb.row
  simp only at hrow
  have hpl:=HSt4.out.pl
  obtain ⟨z1,z2⟩:=HSt4.out.lt
  go_wp2
  refine bodyPost_ret (v:=.tuple #[.agg (cN lb lq (.slice a4 n4 c4) (.slice a5 n5 c5) nn (.slice a6 n6 c6)),.slice a7 fn c7,.int .i64 0,.int .i64 0,.int .i64 1]) (ret_N5 Tryz.results15 _ _ rfl ?c1) rfl ⟨_,_,by rw [HZ.out],?c2⟩
  case c1=>exact row_set _ hpl
  case c2 =>
   rw [HZ.out]
   exact HSt4.out.ret
 have hrt:=rightN_iff.1 HR1.out
 have hod : Ac.Right od:=hrt.owed
 have HOd:=lH hod
 obtain ⟨x,hx⟩ : ∃ x,Ac.get od (ow,lb)=x:=⟨_,rfl⟩
 obtain ⟨y,hy⟩ : ∃ y,Ac.get od (ow,lq)=y:=⟨_,rfl⟩
 have HXY:=lH (And.intro hx hy)
 have HP : Hid (R=if x=0∧y=0 then ((lb,lq,(bu,se,nn),od),fr,0,0,16) else if giveE fr (ow,lb) x=0 then (if giveE (giveL fr (ow,lb) x) (ow,lq) y=0 then ((lb,lq,(bu,se,nn),takeL (takeL od (ow,lb) x) (ow,lq) y),giveL (giveL fr (ow,lb) x) (ow,lq) y,x,y,0) else ((lb,lq,(bu,se,nn),od),fr,0,0,giveE (giveL fr (ow,lb) x) (ow,lq) y)) else ((lb,lq,(bu,se,nn),od),fr,0,0,giveE fr (ow,lb) x)):=lH (by
  rw [← HR.out];unfold collectN;rw [HR1.out,HR2.out,if_pos (by rfl)];simp only;rw [hx,hy])
 have HOm:=lH (show od.length≤maxLen from by unfold maxLen;omega)
 have HFr:=lH (show fr.length≤1000000 from by omega)
 clear hrt hod hx hy
 obtain ⟨r0,r1,_,_,_,r5⟩:=HSt4.out.lb.cells
 simp only at r0 r1 r5
 go_wp2_with fail
 refine (Ac.rGet_any od _ ow lb w4 HSt4.out.lb.l3 HOm.out).mono ?_
 rintro e w5 ⟨rfl,hb5⟩
 rw [HXY.out.1]
 have HSt5:=lH (HSt4.out.stays hb5)
 clear r0 r1 r5
 obtain ⟨r0,r1,_,_,_,r5⟩:=HSt5.out.lb.cells
 simp only at r0 r1 r5
 go_wp2_with fail
 refine (Ac.rGet_any od _ ow lq w5 HSt5.out.lb.l3 HOm.out).mono ?_
 rintro e w6 ⟨rfl,hb6⟩
 rw [HXY.out.2]
 have HSt6:=lH (HSt5.out.stays hb6)
 clear r0 r1 r5
 obtain ⟨r0,r1,_,_,_,r5⟩:=HSt6.out.lb.cells
 simp only at r0 r1 r5
 by_cases h0 : x=0∧y=0
 ·have hd1 : (x==0)=true:=by simpa using h0.1
  have hd2 : (y==0)=true:=by simpa using h0.2
  have HZ : Hid (R=((lb,lq,(bu,se,nn),od),fr,0,0,16)):=lH (by rw [HP.out,if_pos h0])
  clear h0
  have hrow:=HSt6.out.lb.row
  simp only at hrow
  have hpl:=HSt6.out.pl
  obtain ⟨z1,z2⟩:=HSt6.out.lt
  go_wp2
  refine bodyPost_ret (v:=.tuple #[.agg (cN lb lq (.slice a4 n4 c4) (.slice a5 n5 c5) nn (.slice a6 n6 c6)),.slice a7 fn c7,.int .i64 0,.int .i64 0,.int .i64 16]) (ret_N5 Tryz.results15 _ _ rfl ?c1) rfl ⟨_,_,by rw [HZ.out],?c2⟩
  case c1=>exact row_set _ hpl
  case c2 =>
   rw [HZ.out]
   exact HSt6.out.ret
 have HP2 : Hid (R=if giveE fr (ow,lb) x=0 then (if giveE (giveL fr (ow,lb) x) (ow,lq) y=0 then ((lb,lq,(bu,se,nn),takeL (takeL od (ow,lb) x) (ow,lq) y),giveL (giveL fr (ow,lb) x) (ow,lq) y,x,y,0) else ((lb,lq,(bu,se,nn),od),fr,0,0,giveE (giveL fr (ow,lb) x) (ow,lq) y)) else ((lb,lq,(bu,se,nn),od),fr,0,0,giveE fr (ow,lb) x)):=lH (by rw [HP.out,if_neg h0])
 obtain ⟨E1,hE1⟩ : ∃ E,giveE fr (ow,lb) x=E:=⟨_,rfl⟩
 have HE1:=lH hE1
 clear hE1
 have hdn : (x==0)=false∨(x==0)=true∧(y==0)=false:=by
  by_cases hx0 : x=0
  ·right
   refine ⟨by simpa using hx0,?_⟩
   have : ¬ y=0:=fun hy0=>h0 ⟨hx0,hy0⟩
   simpa using this
  ·left;simpa using hx0
 clear h0
 go_upto_region 7 with fail
 go_cut [50] (fun c wx=>c=.bool false∧wx=w6)
 case first =>
  rcases hdn with hdn | ⟨hdx,hdy⟩
  ·go_wp2
   go_meet
   exact ⟨rfl,rfl⟩
  ·go_wp2
   go_meet
   exact ⟨rfl,rfl⟩
 case rest =>
  obtain ⟨rfl,hwc⟩:=hcut
  obtain rfl : w6=wc:=hwc.symm
  clear hwc hdn
  go_wp2_with fail
  refine (Ac.rGive_any fr _ ow lb x w6 HSt6.out.fr HFr.out).mono ?_
  rintro e w7 ⟨f1,rfl,hb7,hf1⟩
  rw [HE1.out]
  have HSt7:=lH (HSt6.out.stays hb7)
  obtain ⟨a10,n10,c10,rfl⟩ : ∃ a n c,f1=.slice a n c:=by obtain ⟨a,c,e⟩:=hl_slice hf1;exact ⟨a,_,c,e⟩
  clear r0 r1 r5
  by_cases hne1 : E1≠0
  ·have hde1 : (E1 != 0)=true:=by simpa using hne1
   have HZ : Hid (R=((lb,lq,(bu,se,nn),od),fr,0,0,E1)):=lH (by rw [HP2.out,HE1.out,if_neg hne1])
   clear hne1
   have hrow:=HSt7.out.lb.row
   simp only at hrow
   have hpl:=HSt7.out.pl
   obtain ⟨z1,z2⟩:=HSt7.out.lt
   go_wp2
   refine bodyPost_ret (v:=.tuple #[.agg (cN lb lq (.slice a4 n4 c4) (.slice a5 n5 c5) nn (.slice a6 n6 c6)),.slice a7 fn c7,.int .i64 0,.int .i64 0,.int .i64 E1]) (ret_N5 Tryz.results15 _ _ rfl ?c1) rfl ⟨_,_,by rw [HZ.out],?c2⟩
   case c1=>exact row_set _ hpl
   case c2 =>
    rw [HZ.out]
    exact HSt7.out.ret
  have hE10 : E1=0:=by simpa using hne1
  have hde1 : (E1 != 0)=false:=by simpa using hE10
  have hfl1 : (giveL fr (ow,lb) x).length≤1000000:=by
   have:=Ac.right_512 (Ac.give_done (HE1.out.trans hE10)).1
   omega
  obtain ⟨E2,hE2⟩ : ∃ E,giveE (giveL fr (ow,lb) x) (ow,lq) y=E:=⟨_,rfl⟩
  have HE2:=lH hE2
  have HP5 : Hid (R=if E2=0 then ((lb,lq,(bu,se,nn),takeL (takeL od (ow,lb) x) (ow,lq) y),giveL (giveL fr (ow,lb) x) (ow,lq) y,x,y,0) else ((lb,lq,(bu,se,nn),od),fr,0,0,E2)):=lH (by rw [HP2.out,HE1.out,if_pos hE10,hE2])
  have HFl1:=lH (And.intro hf1 hfl1)
  clear hne1 hE10 hE2 hf1 hfl1
  obtain ⟨r0,r1,_,_,_,r5⟩:=HSt7.out.lb.cells
  simp only at r0 r1 r5
  go_wp2_with fail
  refine (Ac.rGive_any (giveL fr (ow,lb) x) _ ow lq y w7 HFl1.out.1 HFl1.out.2).mono ?_
  rintro e w8 ⟨f2,rfl,hb8,hf2⟩
  rw [HE2.out]
  have HSt8:=lH (HSt7.out.stays hb8)
  obtain ⟨a11,n11,c11,rfl⟩ : ∃ a n c,f2=.slice a n c:=by obtain ⟨a,c,e⟩:=hl_slice hf2;exact ⟨a,_,c,e⟩
  clear r0 r1 r5
  by_cases hne2 : E2≠0
  ·have hde2 : (E2 != 0)=true:=by simpa using hne2
   have HZ : Hid (R=((lb,lq,(bu,se,nn),od),fr,0,0,E2)):=lH (by rw [HP5.out,if_neg hne2])
   clear hne2
   have hrow:=HSt8.out.lb.row
   simp only at hrow
   have hpl:=HSt8.out.pl
   obtain ⟨z1,z2⟩:=HSt8.out.lt
   go_wp2
   refine bodyPost_ret (v:=.tuple #[.agg (cN lb lq (.slice a4 n4 c4) (.slice a5 n5 c5) nn (.slice a6 n6 c6)),.slice a7 fn c7,.int .i64 0,.int .i64 0,.int .i64 E2]) (ret_N5 Tryz.results15 _ _ rfl ?c1) rfl ⟨_,_,by rw [HZ.out],?c2⟩
   case c1=>exact row_set _ hpl
   case c2 =>
    rw [HZ.out]
    exact HSt8.out.ret
  have hE20 : E2=0:=by simpa using hne2
  have hde2 : (E2 != 0)=false:=by simpa using hE20
  have HP6 : Hid (R=((lb,lq,(bu,se,nn),takeL (takeL od (ow,lb) x) (ow,lq) y),giveL (giveL fr (ow,lb) x) (ow,lq) y,x,y,0)):=lH (by rw [HP5.out,if_pos hE20])
  have HF2:=lH hf2
  have hrow8:=HSt8.out.lb.row
  simp only at hrow8
  have hz8:=HSt8.out.lt.1
  clear hne2 hE20 hf2
  go_upto_region 16 with fail
  obtain ⟨M,hM⟩ : ∃ M,M=w8.alloc (.cells (cN lb lq (.slice a4 n4 c4) (.slice a5 n5 c5) nn (.slice a6 n6 c6)) 28):=⟨_,rfl⟩
  rw [← hM]
  have hbM : Below w8.heap.size w8 M:=hM ▸ below1 w8 _
  have HStM:=lH (HSt8.out.stays hbM)
  have HF2M:=lH (hl_stays HF2.out hbM)
  have HMx:=lH (show LB B (lb,lq,(bu,se,nn),od) (.slice a4 n4 c4) (.slice a5 n5 c5) (.slice a6 n6 c6) w8.heap.size M from by rw [hM];exact LB.made (l:=(lb,lq,(bu,se,nn),od)) HSt8.out.lb.l1 HSt8.out.lb.l2 HSt8.out.lb.l3 (by have:=HSt8.out.lb.lo;omega))
  have HZ8:=lH HSt8.out.lt.2
  clear hM hrow8 hz8
  obtain ⟨r0,r1,_,_,_,_⟩:=HStM.out.lb.cells
  obtain ⟨_,_,_,_,_,m5⟩:=HMx.out.cells
  try simp only at r0 r1 m5
  go_wp2_with fail
  refine (Ac.rTake_any od _ ow lb x M HMx.out.l3 (by omega)).mono ?_
  rintro e w9 ⟨o1,rfl,hb9,ho1⟩
  obtain ⟨a12,n12,c12,rfl⟩ : ∃ a n c,o1=.slice a n c:=by obtain ⟨a,c,e⟩:=hl_slice ho1;exact ⟨a,_,c,e⟩
  have hmx9:=HMx.out.stays hb9
  have hst9:=HStM.out.stays hb9
  clear r0 r1 m5
  obtain ⟨_,_,_,_,_,m5⟩:=hmx9.cells
  have mf5:=hmx9.free 5
  try simp only at m5
  go_upto_region 17 with fail
  obtain ⟨Y,hY⟩ : ∃ Y,Y=w9.setCell ⟨w8.heap.size,5,none⟩ (.slice a12 n12 c12):=⟨_,rfl⟩
  rw [← hY]
  have hmy : LB B (lb,lq,(bu,se,nn),takeL od (ow,lb) x) (.slice a4 n4 c4) (.slice a5 n5 c5) (.slice a12 n12 c12) w8.heap.size Y:=by rw [hY];exact hmx9.set (m:=(lb,lq,(bu,se,nn),takeL od (ow,lb) x)) 5 _ rfl hmx9.l1 hmx9.l2 ho1
  have hsy : St0 B (lb,lq,(bu,se,nn),od) (.slice a4 n4 c4) (.slice a5 n5 c5) (.slice a6 n6 c6) w.heap.size fr (.slice a7 fn c7) w Y:=by rw [hY];exact hst9.otherC (by have:=HZ8.out;omega) (by have:=HZ8.out;omega) hmx9.bk
  have HF2Y:=lH (show HL B.lo (giveL (giveL fr (ow,lb) x) (ow,lq) y) (.slice a11 n11 c11) Y from by rw [hY];exact hl_keep (hl_stays HF2M.out hb9) (keeps_setCell 5 _ hmx9.bk (by decide) hmx9.lo))
  have HMy:=lH hmy
  have HSy:=lH hsy
  clear hY hmy hsy hmx9 hst9 ho1 m5 mf5
  obtain ⟨r0,r1,_,_,_,_⟩:=HSy.out.lb.cells
  obtain ⟨_,_,_,_,_,m5⟩:=HMy.out.cells
  try simp only at r0 r1 m5
  go_wp2_with fail
  refine (Ac.rTake_any (takeL od (ow,lb) x) _ ow lq y Y HMy.out.l3 (Nat.le_trans (take_len HOd.out) (by decide))).mono ?_
  rintro e w10 ⟨o2,rfl,hb10,ho2⟩
  obtain ⟨a13,n13,c13,rfl⟩ : ∃ a n c,o2=.slice a n c:=by obtain ⟨a,c,e⟩:=hl_slice ho2;exact ⟨a,_,c,e⟩
  have hmx10:=HMy.out.stays hb10
  have hst10:=HSy.out.stays hb10
  clear r0 r1 m5
  obtain ⟨_,_,_,_,_,m5⟩:=hmx10.cells
  have mf5:=hmx10.free 5
  try simp only at m5
  go_upto_region 18 with fail
  obtain ⟨Z,hZ⟩ : ∃ Z,Z=w10.setCell ⟨w8.heap.size,5,none⟩ (.slice a13 n13 c13):=⟨_,rfl⟩
  rw [← hZ]
  have hmz : LB B (lb,lq,(bu,se,nn),takeL (takeL od (ow,lb) x) (ow,lq) y) (.slice a4 n4 c4) (.slice a5 n5 c5) (.slice a13 n13 c13) w8.heap.size Z:=by rw [hZ];exact hmx10.set (m:=(lb,lq,(bu,se,nn),takeL (takeL od (ow,lb) x) (ow,lq) y)) 5 _ rfl hmx10.l1 hmx10.l2 ho2
  have hsz : St0 B (lb,lq,(bu,se,nn),od) (.slice a4 n4 c4) (.slice a5 n5 c5) (.slice a6 n6 c6) w.heap.size fr (.slice a7 fn c7) w Z:=by rw [hZ];exact hst10.otherC (by have:=HZ8.out;omega) (by have:=HZ8.out;omega) hmx10.bk
  have HF2Z:=lH (show HL B.lo (giveL (giveL fr (ow,lb) x) (ow,lq) y) (.slice a11 n11 c11) Z from by rw [hZ];exact hl_keep (hl_stays HF2Y.out hb10) (keeps_setCell 5 _ hmx10.bk (by decide) hmx10.lo))
  have HMz:=lH hmz
  have HSz:=lH hsz
  have hrowz:=hmz.row
  simp only at hrowz
  have hplz:=hsz.pl
  have hz1:=hmz.lt
  have hz2:=hsz.lt.2
  have hlo1 : B.lo≤w.heap.size+1:=by have:=hsz.lb.lo;omega
  clear hZ hmz hsz hmx10 hst10 ho2 m5 mf5
  go_wp2
  refine bodyPost_ret (v:=.tuple #[.agg (cN lb lq (.slice a4 n4 c4) (.slice a5 n5 c5) nn (.slice a13 n13 c13)),.slice a11 n11 c11,.int .i64 x,.int .i64 y,.int .i64 0]) (ret_N5 Tryz.results15 _ _ rfl ?c1) rfl ⟨_,_,by rw [HP6.out],?c2⟩
  case c1=>exact row_set _ hplz
  case c2 =>
   rw [HP6.out]
   have hln:=(HMz.out.other (k:=w.heap.size+1) (by have:=HZ8.out;omega) hlo1 HSz.out.g (cN lb lq (.slice a4 n4 c4) (.slice a5 n5 c5) nn (.slice a13 n13 c13))).ln
   exact ⟨below_setRow HSz.out.bel (Nat.le_succ _) _,hln,hl_keep HF2Z.out (keeps_setRow _ HSz.out.g (by decide) hlo1)⟩
end Go.Proofs.YthecinmekoaphaaGreat.La
namespace Go.Proofs.YthecinmekoaphaaGreat.La
open Go.RowKit
open Rw
open Da
open Le
open Bk
open Ro
open Ac (Hd Pu HL pmay pmay_iff tot total giveE giveL takeE takeL)
theorem get_notOf {ow : Int} (q : Pu) : ∀ (l : List Hd),Ac.get (l.filter (notOf ow)) q=if q.1=ow then 0 else Ac.get l q
 | []=>by simp [Ac.get]
 | h :: r=>by
  have ih:=get_notOf (ow:=ow) q r
  by_cases e : h.1=ow
  ·have hf : notOf ow h=false:=by simp [notOf,e]
   rw [List.filter_cons,hf,if_neg (by decide),ih]
   by_cases k : q.1=ow
   ·rw [if_pos k,if_pos k]
   ·rw [if_neg k,if_neg k,Ac.get]
    rw [if_neg (fun x=>k (by rw [← x];exact e))]
  ·have hf : notOf ow h=true:=by simp [notOf,e]
   rw [List.filter_cons,hf,if_pos rfl,Ac.get,ih,Ac.get]
   by_cases k : Ac.key h=q
   ·rw [if_pos k,if_pos k,if_neg (fun x=>e (by rw [← x,← k];rfl))]
   ·rw [if_neg k,if_neg k]
theorem right_notOf {ow : Int} {l : List Hd} (h : Ac.Right l) : Ac.Right (l.filter (notOf ow)) :=
 ⟨fun x hx=>h.1 x (List.mem_filter.1 hx).1,h.2.filter _⟩
theorem collect_notOf {lb lq ow : Int} {od : List Hd} (h : Ac.Right od) (ho : only lb lq od=true) (hne : lb≠lq) (hp : pmay (ow,lb)=true) (hq : pmay (ow,lq)=true) :
  takeL (takeL od (ow,lb) (Ac.get od (ow,lb))) (ow,lq) (Ac.get od (ow,lq))=od.filter (notOf ow):=by
 have p1:=Ac.get_pos (p:=(ow,lb)) h
 have p2:=Ac.get_pos (p:=(ow,lq)) h
 have e1 : takeE od (ow,lb) (Ac.get od (ow,lb))=0:=(Ac.take_plays h hp).2 ⟨p1.1,Int.le_refl _⟩
 obtain ⟨r1,g1,_⟩:=Ac.take_done h hp e1
 have hq1 : Ac.get (takeL od (ow,lb) (Ac.get od (ow,lb))) (ow,lq)=Ac.get od (ow,lq):=by
  rw [g1,if_neg (fun e=>hne (Prod.mk.inj e).2.symm)]
 have e2 : takeE (takeL od (ow,lb) (Ac.get od (ow,lb))) (ow,lq) (Ac.get od (ow,lq))=0:=(Ac.take_plays r1 hq).2 ⟨p2.1,by rw [hq1];exact Int.le_refl _⟩
 obtain ⟨r2,g2,_⟩:=Ac.take_done r1 hq e2
 refine Ac.right_ext r2 (right_notOf h) fun u=>?_
 rw [g2,get_notOf,hq1]
 by_cases k2 : u=(ow,lq)
 ·rw [if_pos k2,if_pos (by rw [k2])];omega
 ·rw [if_neg k2,g1]
  by_cases k1 : u=(ow,lb)
  ·rw [if_pos k1,if_pos (by rw [k1])];omega
  ·rw [if_neg k1]
   by_cases k : u.1=ow
   ·rw [if_pos k]
    refine Ac.get_none fun x hx e=>?_
    unfold only at ho
    have:=List.all_eq_true.1 ho x hx
    rw [Bool.or_eq_true,beq_iff_eq,beq_iff_eq] at this
    rcases this with a | a
    ·exact k1 (by rw [← e];exact Prod.ext (by show x.1=ow;rw [← k,← e];rfl) a)
    ·exact k2 (by rw [← e];exact Prod.ext (by show x.1=ow;rw [← k,← e];rfl) a)
   ·rw [if_neg k]
theorem steps_two {P : Program} {ops : Array Oper} {Q : Exit→Act→World→Prop} {md : Region.Mode} {S G : World→Prop} {i j : Nat} {ord ord' : List Nat} {listed : Array Bool} {a : Act}
  (hr : Region.ready md ops listed=[i,j]) (hl : ord'.length=ord.length) (h : Rh.One P md ops Q S i ord listed a G) (k : Rh.One P md ops Q S j ord' listed a G) : Rh.Steps P md ops Q S (i :: ord) listed a G:=fun hs hQ sS st =>
 ⟨fun e=>absurd hr (by rw [e];exact fun x=>by cases x),fun x hx=>by
  rw [hr] at hx
  simp at hx
  rcases hx with rfl | rfl
  ·exact h hs hQ sS st
  ·have:=k hs hQ sS st
   rw [hl] at this
   exact this⟩
def AtB (T : TypeId) (cs : Array Value) (lo : Nat) (v : Value) (u : World) : Prop:=∃ b,v=.pointer (some ⟨b,0,none⟩)∧lo≤b∧u.heap[b]?=some (.cells cs T (0,0))
theorem AtB.stays {T : TypeId} {cs : Array Value} {lo : Nat} {v : Value} {u u' : World} (h : AtB T cs lo v u) (k : Below u.heap.size u u') : AtB T cs lo v u':=by
 obtain ⟨b,e,h1,h2⟩:=h
 exact ⟨b,e,h1,(k.block b (Array.getElem?_eq_some_iff.1 h2).1).trans h2⟩
theorem AtB.inv {T : TypeId} {cs : Array Value} {lo b : Nat} {u : World} (h : AtB T cs lo (.pointer (some ⟨b,0,none⟩)) u) : lo≤b∧u.heap[b]?=some (.cells cs T (0,0)):=by
 obtain ⟨b',e,h1,h2⟩:=h
 injection e with e
 injection e with e
 injection e with e
 subst e
 exact ⟨h1,h2⟩
theorem AtB.made (T : TypeId) (cs : Array Value) {lo : Nat} {w : World} (h : lo≤w.heap.size) : AtB T cs lo (.pointer (some ⟨w.heap.size,0,none⟩)) (w.alloc (.cells cs T)):=⟨_,rfl,h,heap_alloc_new w _⟩
structure St1 (B : Bs) (l : Ln) (x y o : Value) (ow : Int) (s : Nat) (fr : List Hd) (fv : Value) (w wr : World) : Prop where
 lb : LB B l x y o s wr
 ob : wr.heap[s+1]?=some (.cells #[.int .i64 ow] 3 (0,0))
 g : wr.heap[s+1+1]?=some (.cells (nilN 0 0 0) 28 (0,0))
 fr : HL B.lo fr fv wr
 bel : Below s w wr
theorem St1.stays {B : Bs} {l : Ln} {x y o : Value} {ow : Int} {s : Nat} {fr : List Hd} {fv : Value} {w wr u : World} (h : St1 B l x y o ow s fr fv w wr) (hb : Below wr.heap.size wr u) : St1 B l x y o ow s fr fv w u :=
 ⟨h.lb.stays hb,(hb.block _ (Array.getElem?_eq_some_iff.1 h.ob).1).trans h.ob,(hb.block _ (Array.getElem?_eq_some_iff.1 h.g).1).trans h.g,hl_stays h.fr hb,h.bel.trans (hb.mono (Nat.le_of_lt h.lb.lt))⟩
theorem St1.lt {B : Bs} {l : Ln} {x y o : Value} {ow : Int} {s : Nat} {fr : List Hd} {fv : Value} {w wr : World} (h : St1 B l x y o ow s fr fv w wr) : s<wr.heap.size∧s+1<wr.heap.size∧s+1+1<wr.heap.size:=⟨h.lb.lt,(Array.getElem?_eq_some_iff.1 h.ob).1,(Array.getElem?_eq_some_iff.1 h.g).1⟩
theorem St1.pl {B : Bs} {l : Ln} {x y o : Value} {ow : Int} {s : Nat} {fr : List Hd} {fv : Value} {w wr : World} (h : St1 B l x y o ow s fr fv w wr) : plain 6 wr (s+1+1)=true:=by simp [Rw.plain,h.g]
theorem St1.own {B : Bs} {l : Ln} {x y o : Value} {ow : Int} {s : Nat} {fr : List Hd} {fv : Value} {w wr : World} (h : St1 B l x y o ow s fr fv w wr) : wr.cell? ⟨s+1,0,none⟩=some (.int .i64 ow):=by simp [World.cell?,h.ob]
theorem St1.ret {B : Bs} {l : Ln} {x y o : Value} {ow : Int} {s : Nat} {fr : List Hd} {fv : Value} {w wr : World} (h : St1 B l x y o ow s fr fv w wr) :
  Below s w (wr.setRow (s+1+1) (cN l.1 l.2.1 x y l.2.2.1.2.2 o))∧LN B l (.agg (cN l.1 l.2.1 x y l.2.2.1.2.2 o)) (wr.setRow (s+1+1) (cN l.1 l.2.1 x y l.2.2.1.2.2 o))∧HL B.lo fr fv (wr.setRow (s+1+1) (cN l.1 l.2.1 x y l.2.2.1.2.2 o)) :=
 ⟨below_setRow h.bel (by omega) _,(h.lb.other (by omega) (by have:=h.lb.lo;omega) h.g _).ln,hl_keep h.fr (keeps_setRow _ h.g (by decide) (by have:=h.lb.lo;show B.lo≤s+1+1;omega))⟩
theorem lpurse_is {lb lq nn g : Int} {s : Int} (hg : ndA lb lq s=g) (a1 a2 a3 : Option Addr) (n1 c1 n2 c2 n3 c3 : Nat) (ow : Int) (w : World) :
  Calls Tryz.prog 38 #[.agg (cN lb lq (.slice a1 n1 c1) (.slice a2 n2 c2) nn (.slice a3 n3 c3)),.int .i64 ow,.int .i64 s] w fun e w'=>e=.returned (.agg #[.int .i64 ow,.int .i64 g])∧Below w.heap.size w w':=by
 rw [← hg];exact lpurse_any lb lq nn a1 a2 a3 n1 c1 n2 c2 n3 c3 ow s w
theorem getH_is {lo : Nat} {l : List Hd} {v : Value} {p q x : Int} {w : World} (hx : Hid (Ac.get l (p,q)=x)) (h : HL lo l v w) (hm : l.length≤1000000) :
  Calls Tryz.prog 29 #[v,.agg #[.int .i64 p,.int .i64 q]] w fun e w'=>e=.returned (.int .i64 x)∧Below w.heap.size w w':=by
 rw [← hx.out];exact Ac.get_any l v p q w h hm
section
variable (ρ : Operand→Value) (dst : Option Tmp) (ty : TypeId) (pos : String) (after : Array Edge) (guard : Option (Nat × Bool)) (w : World)
theorem storeP (p x : Operand) (h : plainAt 2 w (ρ p)=true) (hs : (ρ x).cells.size=2) (h1 : oneAll (ρ x)=true) (ha : ρ x=.agg (ρ x).cells) : (execOp ρ { dst,op:=.store 53 p x,type:=ty,pos,after,guard }).run Tryz.prog w=.ok .skip (putRow w (ρ p) (ρ x).cells) :=
 exec_store (n:=1) ρ dst ty pos after guard w (by kernel_rfl) p x h hs h1 ha
theorem loadP (x : Operand) (h : (rowOf w (ρ x)).size=2) : (execOp ρ { dst,op:=.load 53 x,type:=ty,pos,after,guard }).run Tryz.prog w=.ok (.value (.agg (rowOf w (ρ x)))) w :=
 exec_load (n:=1) ρ dst ty pos after guard w Tryz.underlying53 rfl (by kernel_rfl) x h
end
theorem one2 (x y : Int) : oneAll (.agg #[.int .i64 x,.int .i64 y])=true:=by simp [oneAll,Value.cells,Value.oneCell']
theorem size2 (a b : Value) : (#[a,b] : Array Value).size=2:=rfl
end Go.Proofs.YthecinmekoaphaaGreat.La
