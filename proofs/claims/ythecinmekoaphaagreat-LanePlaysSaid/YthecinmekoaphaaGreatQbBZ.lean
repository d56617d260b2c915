/- LanePlays: walked (written by gen_laplays.py). -/
import Derived.Test.YthecinmekoaphaaGreatQbZZ
import Derived.Test.YthecinmekoaphaaGreatQbBY
set_option linter.unusedVariables false
set_option maxRecDepth 16000
set_option maxHeartbeats 32000000
namespace Go.Proofs.YthecinmekoaphaaGreat.La
open Go.RowKit
open Rw
open Da
open Le
open Bk
open Ac (Hd Pu HL pmay pmay_iff tot total giveE giveL takeE takeL)
theorem walkPlays1 (ops : List Op5) (v : Value) (lb lq : Int) (w : World) (h : PL (Bs.of w.heap.size) ops v w) (h60 : ops.length≤60) :
  Calls Tryz.prog 3 #[v,.int .i64 lb,.int .i64 lq] w fun e w'=>e=.returned (.bool true)∧Below w.heap.size w w':=by
 obtain ⟨a0,c0,rfl,hel⟩:=h
 obtain ⟨B,hB'⟩ : ∃ B,B=Bs.of w.heap.size:=⟨_,rfl⟩
 have hB : B.le w.heap.size:=by rw [hB'];exact Bs.of_le _
 obtain ⟨N,hn⟩ : ∃ N,N=ops.length:=⟨_,rfl⟩
 rw [← hn] at h60 ⊢
 have HE:=lH hel
 have HN:=lH hn
 have hd : decide ((60 : Int)<N)=false:=decide_eq_false (by omega)
 have hd' : decide (60<N)=false:=decide_eq_false (by omega)
 have HB:=lH (show ∀ u,Below w.heap.size w u→B.le u.heap.size from fun u hu=>hB.mono hu.size)
 obtain ⟨E,hE⟩ : ∃ E,newE lb lq=E:=⟨_,rfl⟩
 obtain ⟨l0,hl0⟩ : ∃ l,newN lb lq=l:=⟨_,rfl⟩
 have hI0 : Inv l0 (richK 60 4):=by rw [← hl0];exact inv_new lb lq 60
 have HI0:=lH hI0
 have heE : (E != E)=false:=by simp
 have HNw:=lH (lnew_any lb lq w)
 have HNr:=lH (show ∀ u,Calls Tryz.prog 8 #[.int .i64 lb,.int .i64 lq] u fun e w'=>∃ v,e=.returned (.tuple #[v,.int .i64 E])∧Below u.heap.size u w'∧LN B l0 v w' from fun u=>(rNew10_any lb lq u).mono fun e w' ⟨h1,h2⟩=>⟨_,by rw [← hE];exact h1,h2,by rw [← hl0];exact ln_new B lb lq w'⟩)
 have HE0:=lH (show newE lb lq=E∧newN lb lq=l0 from ⟨hE,hl0⟩)
 clear hel hn hB hB' hE hl0 hI0
 go_enter Tryz.func3,Tryz.ntmps3
 go_wp2_with fail
 refine HNw.out.mono ?_
 rintro e w1 ⟨v1,rfl,hb1,hln⟩
 have hln1:=hln B (HB.out w (Below.refl _ _))
 rw [HE0.out.2] at hln1
 obtain ⟨a1,n1,c1,a2,n2,c2,a3,n3,c3,rfl,-,-,-,hk1,hk2,hk3⟩:=hln1.open'
 rw [HE0.out.1]
 obtain ⟨M1,hM1⟩ : ∃ M,M=w1.alloc (.cells (cN l0.1 l0.2.1 (.slice a1 n1 c1) (.slice a2 n2 c2) l0.2.2.1.2.2 (.slice a3 n3 c3)) 28):=⟨_,rfl⟩
 have hbM1 : Below w.heap.size w M1:=nx hb1 (hM1 ▸ below1 w1 _)
 have HX1:=lH (show LB B l0 (.slice a1 n1 c1) (.slice a2 n2 c2) (.slice a3 n3 c3) w1.heap.size M1 from by rw [hM1];exact LB.made hk1 hk2 hk3 (HB.out w1 hb1).1)
 have HM1:=lH hM1
 obtain ⟨s,hs⟩ : ∃ s,w1.heap.size=s:=⟨_,rfl⟩
 rw [hs] at HX1
 have hsz : w.heap.size≤s:=by have:=hb1.size;omega
 clear hln hln1 hk1 hk2 hk3 hM1
 go_wp2_with fail
 rw [← HM1.out]
 refine (HNr.out M1).mono ?_
 rintro e w2 ⟨v2,rfl,hb2,hln⟩
 obtain ⟨e1,i1,j1,e2,i2,j2,e3,i3,j3,rfl,-,-,-,hk1,hk2,hk3⟩:=hln.open'
 have hbw2:=nx hbM1 hb2
 obtain ⟨M2,hM2⟩ : ∃ M,M=w2.alloc (.cells (cN l0.1 l0.2.1 (.slice e1 i1 j1) (.slice e2 i2 j2) l0.2.2.1.2.2 (.slice e3 i3 j3)) 28):=⟨_,rfl⟩
 have hb22 : Below w2.heap.size w2 M2:=hM2 ▸ below1 w2 _
 have hbM2 : Below w.heap.size w M2:=nx hbw2 hb22
 obtain ⟨p,hp⟩ : ∃ s,w2.heap.size=s:=⟨_,rfl⟩
 have hy2 : LB B l0 (.slice e1 i1 j1) (.slice e2 i2 j2) (.slice e3 i3 j3) p M2:=by rw [hM2,← hp];exact LB.made hk1 hk2 hk3 (HB.out w2 hbw2).1
 have HY2:=lH hy2
 have hx2:=HX1.out.stays (nx hb2 hb22)
 have HX2:=lH hx2
 have hsp : s<p:=by rw [← hp];have:=(HX1.out.stays hb2).lt;exact this
 have HM2:=lH hM2
 have r0:=hx2.row
 have z0:=hx2.lt
 have r1:=hy2.row
 have z1:=hy2.lt
 clear hln hk1 hk2 hk3 hM2 hx2 hy2 hb22 hb2 hb1
 go_upto_region 3 with fail
 rw [← HM2.out]
 go_wp2_with fail
 refine (same_yes (B:=B) (B':=B) l0 _ _ M2 HX2.out.ln HY2.out.ln (HB.out M2 hbM2) (HB.out M2 hbM2) HI0.out.sm).mono ?_
 rintro e w3 ⟨rfl,hb3⟩
 have hbw3:=nx hbM2 hb3
 have HX3:=lH (HX2.out.stays hb3)
 have HY3:=lH (HY2.out.stays hb3)
 clear r0 z0 r1 z1 hb3 hbM2 hbM1 hbw2
 go_wp2_with fail
 refine (rich_any (lo:=B.lo) 60 w3).mono ?_
 rintro e w4 ⟨v4,rfl,hb4,hr4⟩
 obtain ⟨a4,c4,rfl⟩:=hl_slice hr4
 have HF4:=lH hr4
 clear hr4
 go_wp2_with fail
 refine (rich_any (lo:=B.lo) 60 w4).mono ?_
 rintro e w5 ⟨v5,rfl,hb5,hr5⟩
 obtain ⟨a5,c5,rfl⟩:=hl_slice hr5
 have hbw5:=nx hbw3 (nx hb4 hb5)
 have HX5:=lH (HX3.out.stays (nx hb4 hb5))
 have HY5:=lH (HY3.out.stays (nx hb4 hb5))
 have HF5:=lH (hl_stays HF4.out hb5)
 have HG5:=lH hr5
 clear hb4 hb5 hr5 hbw3
 go_wp2
 go_loopw [11,12,79] (fun f g i wr=>∃ k : Nat,k≤N∧i=.int .i64 k∧Below w.heap.size w wr∧∃ (l : Ln) (fr : List Hd) (a1 : Option Addr) (n1 c1 : Nat) (a2 : Option Addr) (n2 c2 : Nat) (a3 : Option Addr) (n3 c3 : Nat) (e1 : Option Addr) (i1 j1 : Nat) (e2 : Option Addr) (i2 j2 : Nat) (e3 : Option Addr) (i3 j3 : Nat) (a4 : Option Addr) (n4 c4 : Nat) (a5 : Option Addr) (n5 c5 : Nat),Inv l fr∧LB B l (.slice a1 n1 c1) (.slice a2 n2 c2) (.slice a3 n3 c3) s wr∧LB B l (.slice e1 i1 j1) (.slice e2 i2 j2) (.slice e3 i3 j3) p wr∧f=.slice a4 n4 c4∧g=.slice a5 n5 c5∧HL B.lo fr (.slice a4 n4 c4) wr∧HL B.lo fr (.slice a5 n5 c5) wr) (fun _ _ i _=>N - (intOf i).toNat)
 case atStart=>exact ⟨0,Nat.zero_le _,rfl,hbw5,l0,richK 60 4,a1,n1,c1,a2,n2,c2,a3,n3,c3,e1,i1,j1,e2,i2,j2,e3,i3,j3,a4,_,c4,a5,_,c5,HI0.out,HX5.out,HY5.out,rfl,rfl,HF5.out,HG5.out⟩
 case round =>
  obtain ⟨k,hk,rfl,hb,l,fr,a1,n1,c1,a2,n2,c2,a3,n3,c3,e1,i1,j1,e2,i2,j2,e3,i3,j3,a4,n4,c4,a5,n5,c5,hI,hbx,hby,rfl,rfl,hfl,hgl⟩:=hrel
  have HI:=lH hI
  have HX:=lH hbx
  have HY:=lH hby
  have HF:=lH hfl
  have HG:=lH hgl
  have r0:=hbx.row
  have z0:=hbx.lt
  have y0:=hby.row
  have z0':=hby.lt
  clear hbx hby hI hfl hgl
  by_cases hlt : k<N
  ·have hlt2 : (k : Int)<N:=by omega
   have hko : k<ops.length:=by rw [← HN.out];exact hlt
   rcases HE.out with ⟨e,_⟩ | ⟨bo,off,rfl,hat⟩
   ·rw [e] at hko;cases hko
   obtain ⟨q0,q1,q2,q3,q4⟩:=atP (Lies.keep eP 36 hat (Keeps.of_below hb)) k hko
   have hbb : bo<wr.heap.size:=Nat.lt_of_lt_of_le hat.1 hb.size
   obtain ⟨⟨o1,o2,o3,o4,o5⟩,ho⟩ : ∃ x,ops[k]'hko=x:=⟨_,rfl⟩
   rw [ho] at q0 q1 q2 q3 q4
   simp only at q0 q1 q2 q3 q4
   obtain ⟨V,hV⟩ : ∃ V,V=wr.alloc (.cells #[.int .i64 o1,.int .i64 o2,.int .i64 o3,.int .i64 o4,.int .i64 o5] 36):=⟨_,rfl⟩
   have hbV : Below wr.heap.size wr V:=hV ▸ below1 wr _
   obtain ⟨t,ht⟩ : ∃ t,wr.heap.size=t:=⟨_,rfl⟩
   have hzV : V.heap.size=t+1:=by rw [hV,← ht];simp
   have hop : V.heap[t]?=some (.cells #[.int .i64 o1,.int .i64 o2,.int .i64 o3,.int .i64 o4,.int .i64 o5] 36 (0,0)):=by rw [hV,← ht];exact heap_alloc_new wr _
   have HOp:=lH (show ∀ u,Below V.heap.size V u→(u.cell? ⟨t,0,none⟩=some (.int .i64 o1)∧u.cell? ⟨t,1,none⟩=some (.int .i64 o2)∧u.cell? ⟨t,2,none⟩=some (.int .i64 o3)∧u.cell? ⟨t,3,none⟩=some (.int .i64 o4)∧u.cell? ⟨t,4,none⟩=some (.int .i64 o5))∧t<u.heap.size∧t<u.heap.size+1 from fun u hu=>by
    have g:=(hu.block _ (by omega)).trans hop
    have:=hu.size
    refine ⟨⟨?_,?_,?_,?_,?_⟩,by omega,by omega⟩<;>simp [World.cell?,g])
   have HOq:=lH hop
   have HV:=lH hV
   have HT:=lH ht
   have HzV:=lH hzV
   have hbVw:=nx hb hbV
   have hXV:=HX.out.stays hbV
   have hYV:=HY.out.stays hbV
   have HXV:=lH hXV
   have HYV:=lH hYV
   have HFV:=lH (hl_stays HF.out hbV)
   have HGV:=lH (hl_stays HG.out hbV)
   have hst : s<t∧p<t:=by have:=HX.out.lt;have:=HY.out.lt;omega
   clear r0 z0 y0 z0' hzV hop hV hat ho hbV
   have r0:=hXV.row
   have z0:=hXV.lt
   obtain ⟨⟨x0,x1,x2,x3,x4⟩,zo1,zo2⟩:=HOp.out V (Below.refl _ _)
   clear hXV hYV
   go_upto_region 9 with fail
   rw [← HV.out]
   clear q0 q1 q2 q3 q4 hbb ht
   by_cases hk2 : o1=2
   ·have hd2 : (o1==2)=true:=by simpa using hk2
    clear hk2
    as_aux_lemma =>
     have hI':=inv_cancel HI.out o2 o4
     obtain ⟨⟨m,fr',q,er⟩,hC⟩ : ∃ C,cancelN l fr o2 o4=C:=⟨_,rfl⟩
     rw [hC] at hI'
     simp only at hI'
     have HI':=lH hI'
     have HC:=lH hC
     have hqq : (q != q)=false:=by simp
     have hee : (er != er)=false:=by simp
     clear hC hI'
     go_wp2_with fail
     refine (lcancel_any B l _ fr _ o2 o4 V HXV.out.ln HFV.out (HB.out V hbVw) HI.out.sm HI.out.len).mono ?_
     rw [HC.out]
     rintro e w3 ⟨v3,f3,rfl,hd9,hln,hfl⟩
     simp only at hln hfl
     obtain ⟨b1,m1,d1,b2,m2,d2,b3,m3,d3,rfl,-,-,-,h1,h2,h3⟩:=hln.open'
     obtain ⟨b4,d4,rfl⟩:=hl_slice hfl
     obtain ⟨X,hX⟩ : ∃ X,X=w3.alloc (.cells (cN m.1 m.2.1 (.slice b1 m1 d1) (.slice b2 m2 d2) m.2.2.1.2.2 (.slice b3 m3 d3)) 28):=⟨_,rfl⟩
     have hbX : Below w3.heap.size w3 X:=hX ▸ below1 w3 _
     have hb3w:=nx hbVw hd9
     have hbVX:=nx hd9 hbX
     have hbXw:=nx hbVw hbVX
     obtain ⟨bx,hbx⟩ : ∃ s,w3.heap.size=s:=⟨_,rfl⟩
     have hxx : LB B m (.slice b1 m1 d1) (.slice b2 m2 d2) (.slice b3 m3 d3) bx X:=by rw [hX,← hbx];exact LB.made h1 h2 h3 (HB.out w3 hb3w).1
     have hpx : p<bx∧s<bx∧t<bx:=by have:=hd9.size;have:=HzV.out;omega
     have HXX:=lH hxx
     have HX3:=lH (HXV.out.stays hbVX)
     have HY3:=lH (HYV.out.stays hbVX)
     have HG3:=lH (hl_stays HGV.out hbVX)
     have HFX:=lH (hl_stays hfl hbX)
     have HXf:=lH hX
     have hy3:=HYV.out.stays hd9
     have HBx:=lH hbx
     clear r0 z0 x0 x1 x2 x3 x4 zo1 zo2
     obtain ⟨⟨x0,x1,x2,x3,x4⟩,zo1,zo2⟩:=HOp.out w3 hd9
     have y0:=hy3.row
     have z0':=hy3.lt
     clear hX hxx hy3 hbx hln hfl h1 h2 h3 hd9 hbX hb3w
     go_wp2_with fail
     rw [← HXf.out,HBx.out]
     refine (rCancel10_any B l _ fr _ o2 o4 X HY3.out.ln HG3.out (HB.out X hbXw) HI.out.sm HI.out.len).mono ?_
     rw [HC.out]
     rintro e w4 ⟨v3,f3,rfl,hd9,hln,hfl⟩
     simp only at hln hfl
     obtain ⟨e1,i1,j1,e2,i2,j2,e3,i3,j3,rfl,-,-,-,h1,h2,h3⟩:=hln.open'
     obtain ⟨e4,j4,rfl⟩:=hl_slice hfl
     obtain ⟨Y,hY⟩ : ∃ X,X=w4.alloc (.cells (cN m.1 m.2.1 (.slice e1 i1 j1) (.slice e2 i2 j2) m.2.2.1.2.2 (.slice e3 i3 j3)) 28):=⟨_,rfl⟩
     have hbY : Below w4.heap.size w4 Y:=hY ▸ below1 w4 _
     have hb4w:=nx hbXw hd9
     have hbXY:=nx hd9 hbY
     have hbYw:=nx hbXw hbXY
     obtain ⟨by',hby⟩ : ∃ s,w4.heap.size=s:=⟨_,rfl⟩
     have hyy : LB B m (.slice e1 i1 j1) (.slice e2 i2 j2) (.slice e3 i3 j3) by' Y:=by rw [hY,← hby];exact LB.made h1 h2 h3 (HB.out w4 hb4w).1
     have hxY:=HXX.out.stays hbXY
     have hpy : bx<by':=by have:=(HXX.out.stays hd9).lt;omega
     have hw4:=(HXX.out.stays hd9)
     have HYY:=lH hyy
     have HXY:=lH hxY
     have HX4:=lH (HX3.out.stays hbXY)
     have HY4:=lH (HY3.out.stays hbXY)
     have HFY:=lH (hl_stays HFX.out hbXY)
     have HGY:=lH (hl_stays hfl hbY)
     have HYf:=lH hY
     have HBy:=lH hby
     have HOY:=lH ((nx hbVX hbXY).block t (by rw [HzV.out];omega) |>.trans HOq.out)
     clear y0 z0' x0 x1 x2 x3 x4 zo1 zo2 hY hyy hby hln hfl h1 h2 h3 hd9 hbY hb4w hw4 hxY hbVX
     obtain ⟨W,hW⟩ : ∃ W,W=Y:=⟨_,rfl⟩
     have hb5 : Below Y.heap.size Y W:=by rw [hW];exact Below.refl _ _
     have HWY:=lH hW
     clear hW
     go_upto_region 18 with fail
     rw [← HYf.out,HBy.out,← HWY.out]
     have HtW:=lH (two (w:=w) (HX4.out.stays hb5) (HY4.out.stays hb5) (HXY.out.stays hb5) (HYY.out.stays hb5) (hl_stays HFY.out hb5) (hl_stays HGY.out hb5) hsp (by omega) (by omega) (nx hbYw hb5) hsz)
     have HOW:=lH ((hb5.block t (Array.getElem?_eq_some_iff.1 HOY.out).1).trans HOY.out)
     obtain ⟨u1,u2,u3,u4,u5,u6,u7,u8,u9,_,_,_,_,_⟩:=HtW.out
     have t5:=(HXY.out.stays hb5).lt
     have t6:=(HYY.out.stays hb5).lt
     have hp9:=(HX4.out.stays hb5).lt
     have hq9:=(HY4.out.stays hb5).lt
     clear hb5 hbYw hbXY hbXw
     go_wp2
     go_region
     clear u1 u2 u3 u4 u5 u6 u7 u8 u9 hp9 hq9 t5 t6
     obtain ⟨Z,hZ⟩ : ∃ Z,Z=((W.setRow s (cN m.1 m.2.1 (.slice b1 m1 d1) (.slice b2 m2 d2) m.2.2.1.2.2 (.slice b3 m3 d3))).setRow p (cN m.1 m.2.1 (.slice e1 i1 j1) (.slice e2 i2 j2) m.2.2.1.2.2 (.slice e3 i3 j3))).drew:=⟨_,rfl⟩
     rw [← hZ]
     have hdr:=Below.refl ((W.setRow s (cN m.1 m.2.1 (.slice b1 m1 d1) (.slice b2 m2 d2) m.2.2.1.2.2 (.slice b3 m3 d3))).setRow p (cN m.1 m.2.1 (.slice e1 i1 j1) (.slice e2 i2 j2) m.2.2.1.2.2 (.slice e3 i3 j3))).heap.size ((W.setRow s (cN m.1 m.2.1 (.slice b1 m1 d1) (.slice b2 m2 d2) m.2.2.1.2.2 (.slice b3 m3 d3))).setRow p (cN m.1 m.2.1 (.slice e1 i1 j1) (.slice e2 i2 j2) m.2.2.1.2.2 (.slice e3 i3 j3))) |>.drew
     rw [← hZ] at hdr
     have HbZ:=lH (nx HtW.out.bel hdr)
     have HXZ:=lH (HtW.out.b1.stays hdr)
     have HYZ:=lH (HtW.out.b2.stays hdr)
     have HFZ:=lH (hl_stays HtW.out.fr1 hdr)
     have HGZ:=lH (hl_stays HtW.out.fr2 hdr)
     have HOZ:=lH (show Z.heap[t]?=some (.cells #[.int .i64 o1,.int .i64 o2,.int .i64 o3,.int .i64 o4,.int .i64 o5] 36 (0,0)) from (hdr.block t (by have:=(Array.getElem?_eq_some_iff.1 HOW.out).1;simpa using this)).trans ((setRow_other _ p t _ (by omega)).trans ((setRow_other W s t _ (by omega)).trans HOW.out)))
     clear hZ hdr
     obtain ⟨R1,hR1⟩ : ∃ x,reserved m o3=x:=⟨_,rfl⟩
     obtain ⟨R2,hR2⟩ : ∃ x,owedN m o3=x:=⟨_,rfl⟩
     obtain ⟨R3,hR3⟩ : ∃ x,rightN m=x:=⟨_,rfl⟩
     have HR:=lH (show reserved m o3=R1∧owedN m o3=R2∧rightN m=R3 from ⟨hR1,hR2,hR3⟩)
     have hn1 : (R1 != R1)=false:=by simp
     have hn2 : (R2 != R2)=false:=by simp
     have hn3 : (R3 != R3)=false:=by simp
     have hF : ∀ u,Below Z.heap.size Z u→row u s=cN m.1 m.2.1 (.slice b1 m1 d1) (.slice b2 m2 d2) m.2.2.1.2.2 (.slice b3 m3 d3)∧s<u.heap.size∧row u p=cN m.1 m.2.1 (.slice e1 i1 j1) (.slice e2 i2 j2) m.2.2.1.2.2 (.slice e3 i3 j3)∧p<u.heap.size∧u.cell? ⟨t,2,none⟩=some (.int .i64 o3)∧t<u.heap.size:=fun u hu=>by
      have hx:=HXZ.out.stays hu
      have hy:=HYZ.out.stays hu
      have ho:=(hu.block t (Array.getElem?_eq_some_iff.1 HOZ.out).1).trans HOZ.out
      exact ⟨hx.row,hx.lt,hy.row,hy.lt,by simp [World.cell?,ho],(Array.getElem?_eq_some_iff.1 ho).1⟩
     have HBz:=lH (show ∀ u,Below Z.heap.size Z u→B.le u.heap.size from fun u hu=>HB.out u (nx HbZ.out hu))
     have hlf : fr'.length≤1000000:=Nat.le_trans HI'.out.len (by decide)
     clear hR1 hR2 hR3
     go_upto_region 27 with fail
     refine Rh.rb [0,1,2,3,4,5,6,7,8,9,10,11,12,13,14,15,16,17,18,19,20,21,22,23,24,25,26,27,28,29,30,31,32,33,34,35,36,37,38] ?_
     repeat (first | (refine Rh.Steps.sk ?_;simp only [Act.put,sA,sB,sC]) | (refine Rh.Steps.pu (v:=?_) ?_ ?_;rotate_left;(intro w_ hS_;have hk_:=hF w_ hS_;go_simp<;>with_reducible rfl);simp only [Act.put,sA,sB,sC]) | (refine Rh.Steps.ca (v:=?_) (f:=?_) (args:=?_) ?_ ?_ ?_;rotate_left 3;(intro w_ hS_;have hk_:=hF w_ hS_;go_simp<;>first | with_reducible rfl | (constructor<;>with_reducible rfl));(intro w_ hS_;have hk_:=hF w_ hS_;first | (go_at_call 9;refine (same_yes (B:=B) (B':=B) m _ _ w_ (HXZ.out.stays hS_).ln (HYZ.out.stays hS_).ln (HBz.out w_ hS_) (HBz.out w_ hS_) HI'.out.sm).mono ?_;first | (rintro e w_ ⟨rfl,rfl⟩;refine ⟨?_,Below.refl _ _⟩;with_reducible rfl) | (rintro e w_ ⟨rfl,hb_⟩;refine ⟨?_,hb_⟩;with_reducible rfl)) | (go_at_call 19;refine (holdings_yes fr' _ _ w_ (hl_stays HFZ.out hS_) (hl_stays HGZ.out hS_) hlf).mono ?_;first | (rintro e w_ ⟨rfl,rfl⟩;refine ⟨?_,Below.refl _ _⟩;with_reducible rfl) | (rintro e w_ ⟨rfl,hb_⟩;refine ⟨?_,hb_⟩;with_reducible rfl)) | (go_at_call 20;refine (res_is HR.out.1 (HXZ.out.stays hS_).ln (HBz.out w_ hS_) HI'.out.sm).mono ?_;first | (rintro e w_ ⟨rfl,rfl⟩;refine ⟨?_,Below.refl _ _⟩;with_reducible rfl) | (rintro e w_ ⟨rfl,hb_⟩;refine ⟨?_,hb_⟩;with_reducible rfl)) | (go_at_call 21;refine (rres_is HR.out.1 (HYZ.out.stays hS_).ln (HBz.out w_ hS_) HI'.out.sm).mono ?_;first | (rintro e w_ ⟨rfl,rfl⟩;refine ⟨?_,Below.refl _ _⟩;with_reducible rfl) | (rintro e w_ ⟨rfl,hb_⟩;refine ⟨?_,hb_⟩;with_reducible rfl)) | (go_at_call 22;refine (owe_is HR.out.2.1 (HXZ.out.stays hS_).ln (HBz.out w_ hS_) HI'.out.sm).mono ?_;first | (rintro e w_ ⟨rfl,rfl⟩;refine ⟨?_,Below.refl _ _⟩;with_reducible rfl) | (rintro e w_ ⟨rfl,hb_⟩;refine ⟨?_,hb_⟩;with_reducible rfl)) | (go_at_call 23;refine (rowe_is HR.out.2.1 (HYZ.out.stays hS_).ln (HBz.out w_ hS_) HI'.out.sm).mono ?_;first | (rintro e w_ ⟨rfl,rfl⟩;refine ⟨?_,Below.refl _ _⟩;with_reducible rfl) | (rintro e w_ ⟨rfl,hb_⟩;refine ⟨?_,hb_⟩;with_reducible rfl)) | (go_at_call 24;refine (lrt_is HR.out.2.2 (HXZ.out.stays hS_).ln (HBz.out w_ hS_) HI'.out.sm).mono ?_;first | (rintro e w_ ⟨rfl,rfl⟩;refine ⟨?_,Below.refl _ _⟩;with_reducible rfl) | (rintro e w_ ⟨rfl,hb_⟩;refine ⟨?_,hb_⟩;with_reducible rfl)) | (go_at_call 25;refine (rright_is HR.out.2.2 (HYZ.out.stays hS_).ln (HBz.out w_ hS_) HI'.out.sm).mono ?_;first | (rintro e w_ ⟨rfl,rfl⟩;refine ⟨?_,Below.refl _ _⟩;with_reducible rfl) | (rintro e w_ ⟨rfl,hb_⟩;refine ⟨?_,hb_⟩;with_reducible rfl)));simp only [Act.put,sA,sB,sC]))
     refine Rh.Steps.nil (by kernel_rfl) ?_
     intro w9_ hS9_ _
     go_wp2
     go_roundw
     case rel=>exact ⟨k+1,by omega,by go_num,nx HbZ.out hS9_,m,fr',_,_,_,_,_,_,_,_,_,_,_,_,_,_,_,_,_,_,_,_,_,_,_,_,HI'.out,HXZ.out.stays hS9_,HYZ.out.stays hS9_,rfl,rfl,hl_stays HFZ.out hS9_,hl_stays HGZ.out hS9_⟩
     case measure=>simp [intOf];omega
   ·have hd2 : (o1==2)=false:=by simpa using hk2
    by_cases hk3 : o1=3
    ·have hd3 : (o1==3)=true:=by simpa using hk3
     clear hk2 hk3
     as_aux_lemma =>
      have hI':=inv_collect HI.out o2
      obtain ⟨⟨m,fr',q,q2,er⟩,hC⟩ : ∃ C,collectN l fr o2=C:=⟨_,rfl⟩
      rw [hC] at hI'
      simp only at hI'
      have HI':=lH hI'
      have HC:=lH hC
      have hqq : (q != q)=false:=by simp
      have hqq2 : (q2 != q2)=false:=by simp
      have hee : (er != er)=false:=by simp
      clear hC hI'
      go_wp2_with fail
      refine (lcollect_any B l _ fr _ o2 V HXV.out.ln HFV.out (HB.out V hbVw) HI.out.sm HI.out.len).mono ?_
      rw [HC.out]
      rintro e w3 ⟨v3,f3,rfl,hd9,hln,hfl⟩
      simp only at hln hfl
      obtain ⟨b1,m1,d1,b2,m2,d2,b3,m3,d3,rfl,-,-,-,h1,h2,h3⟩:=hln.open'
      obtain ⟨b4,d4,rfl⟩:=hl_slice hfl
      obtain ⟨X,hX⟩ : ∃ X,X=w3.alloc (.cells (cN m.1 m.2.1 (.slice b1 m1 d1) (.slice b2 m2 d2) m.2.2.1.2.2 (.slice b3 m3 d3)) 28):=⟨_,rfl⟩
      have hbX : Below w3.heap.size w3 X:=hX ▸ below1 w3 _
      have hb3w:=nx hbVw hd9
      have hbVX:=nx hd9 hbX
      have hbXw:=nx hbVw hbVX
      obtain ⟨bx,hbx⟩ : ∃ s,w3.heap.size=s:=⟨_,rfl⟩
      have hxx : LB B m (.slice b1 m1 d1) (.slice b2 m2 d2) (.slice b3 m3 d3) bx X:=by rw [hX,← hbx];exact LB.made h1 h2 h3 (HB.out w3 hb3w).1
      have hpx : p<bx∧s<bx∧t<bx:=by have:=hd9.size;have:=HzV.out;omega
      have HXX:=lH hxx
      have HX3:=lH (HXV.out.stays hbVX)
      have HY3:=lH (HYV.out.stays hbVX)
      have HG3:=lH (hl_stays HGV.out hbVX)
      have HFX:=lH (hl_stays hfl hbX)
      have HXf:=lH hX
      have hy3:=HYV.out.stays hd9
      have HBx:=lH hbx
      clear r0 z0 x0 x1 x2 x3 x4 zo1 zo2
      obtain ⟨⟨x0,x1,x2,x3,x4⟩,zo1,zo2⟩:=HOp.out w3 hd9
      have y0:=hy3.row
      have z0':=hy3.lt
      clear hX hxx hy3 hbx hln hfl h1 h2 h3 hd9 hbX hb3w
      go_wp2_with fail
      rw [← HXf.out,HBx.out]
      refine (rCollect10_any B l _ fr _ o2 X HY3.out.ln HG3.out (HB.out X hbXw) HI.out.sm HI.out.len).mono ?_
      rw [HC.out]
      rintro e w4 ⟨v3,f3,rfl,hd9,hln,hfl⟩
      simp only at hln hfl
      obtain ⟨e1,i1,j1,e2,i2,j2,e3,i3,j3,rfl,-,-,-,h1,h2,h3⟩:=hln.open'
      obtain ⟨e4,j4,rfl⟩:=hl_slice hfl
      obtain ⟨Y,hY⟩ : ∃ X,X=w4.alloc (.cells (cN m.1 m.2.1 (.slice e1 i1 j1) (.slice e2 i2 j2) m.2.2.1.2.2 (.slice e3 i3 j3)) 28):=⟨_,rfl⟩
      have hbY : Below w4.heap.size w4 Y:=hY ▸ below1 w4 _
      have hb4w:=nx hbXw hd9
      have hbXY:=nx hd9 hbY
      have hbYw:=nx hbXw hbXY
      obtain ⟨by',hby⟩ : ∃ s,w4.heap.size=s:=⟨_,rfl⟩
      have hyy : LB B m (.slice e1 i1 j1) (.slice e2 i2 j2) (.slice e3 i3 j3) by' Y:=by rw [hY,← hby];exact LB.made h1 h2 h3 (HB.out w4 hb4w).1
      have hxY:=HXX.out.stays hbXY
      have hpy : bx<by':=by have:=(HXX.out.stays hd9).lt;omega
      have hw4:=(HXX.out.stays hd9)
      have HYY:=lH hyy
      have HXY:=lH hxY
      have HX4:=lH (HX3.out.stays hbXY)
      have HY4:=lH (HY3.out.stays hbXY)
      have HFY:=lH (hl_stays HFX.out hbXY)
      have HGY:=lH (hl_stays hfl hbY)
      have HYf:=lH hY
      have HBy:=lH hby
      have HOY:=lH ((nx hbVX hbXY).block t (by rw [HzV.out];omega) |>.trans HOq.out)
      clear y0 z0' x0 x1 x2 x3 x4 zo1 zo2 hY hyy hby hln hfl h1 h2 h3 hd9 hbY hb4w hw4 hxY hbVX
      obtain ⟨W,hW⟩ : ∃ W,W=Y:=⟨_,rfl⟩
      have hb5 : Below Y.heap.size Y W:=by rw [hW];exact Below.refl _ _
      have HWY:=lH hW
      clear hW
      go_upto_region 24 with fail
      rw [← HYf.out,HBy.out,← HWY.out]
      have HtW:=lH (two (w:=w) (HX4.out.stays hb5) (HY4.out.stays hb5) (HXY.out.stays hb5) (HYY.out.stays hb5) (hl_stays HFY.out hb5) (hl_stays HGY.out hb5) hsp (by omega) (by omega) (nx hbYw hb5) hsz)
      have HOW:=lH ((hb5.block t (Array.getElem?_eq_some_iff.1 HOY.out).1).trans HOY.out)
      obtain ⟨u1,u2,u3,u4,u5,u6,u7,u8,u9,_,_,_,_,_⟩:=HtW.out
      have t5:=(HXY.out.stays hb5).lt
      have t6:=(HYY.out.stays hb5).lt
      have hp9:=(HX4.out.stays hb5).lt
      have hq9:=(HY4.out.stays hb5).lt
      clear hb5 hbYw hbXY hbXw
      go_wp2
      go_region
      clear u1 u2 u3 u4 u5 u6 u7 u8 u9 hp9 hq9 t5 t6
      obtain ⟨Z,hZ⟩ : ∃ Z,Z=((W.setRow s (cN m.1 m.2.1 (.slice b1 m1 d1) (.slice b2 m2 d2) m.2.2.1.2.2 (.slice b3 m3 d3))).setRow p (cN m.1 m.2.1 (.slice e1 i1 j1) (.slice e2 i2 j2) m.2.2.1.2.2 (.slice e3 i3 j3))).drew:=⟨_,rfl⟩
      rw [← hZ]
      have hdr:=Below.refl ((W.setRow s (cN m.1 m.2.1 (.slice b1 m1 d1) (.slice b2 m2 d2) m.2.2.1.2.2 (.slice b3 m3 d3))).setRow p (cN m.1 m.2.1 (.slice e1 i1 j1) (.slice e2 i2 j2) m.2.2.1.2.2 (.slice e3 i3 j3))).heap.size ((W.setRow s (cN m.1 m.2.1 (.slice b1 m1 d1) (.slice b2 m2 d2) m.2.2.1.2.2 (.slice b3 m3 d3))).setRow p (cN m.1 m.2.1 (.slice e1 i1 j1) (.slice e2 i2 j2) m.2.2.1.2.2 (.slice e3 i3 j3))) |>.drew
      rw [← hZ] at hdr
      have HbZ:=lH (nx HtW.out.bel hdr)
      have HXZ:=lH (HtW.out.b1.stays hdr)
      have HYZ:=lH (HtW.out.b2.stays hdr)
      have HFZ:=lH (hl_stays HtW.out.fr1 hdr)
      have HGZ:=lH (hl_stays HtW.out.fr2 hdr)
      have HOZ:=lH (show Z.heap[t]?=some (.cells #[.int .i64 o1,.int .i64 o2,.int .i64 o3,.int .i64 o4,.int .i64 o5] 36 (0,0)) from (hdr.block t (by have:=(Array.getElem?_eq_some_iff.1 HOW.out).1;simpa using this)).trans ((setRow_other _ p t _ (by omega)).trans ((setRow_other W s t _ (by omega)).trans HOW.out)))
      clear hZ hdr
      obtain ⟨R1,hR1⟩ : ∃ x,reserved m o3=x:=⟨_,rfl⟩
      obtain ⟨R2,hR2⟩ : ∃ x,owedN m o3=x:=⟨_,rfl⟩
      obtain ⟨R3,hR3⟩ : ∃ x,rightN m=x:=⟨_,rfl⟩
      have HR:=lH (show reserved m o3=R1∧owedN m o3=R2∧rightN m=R3 from ⟨hR1,hR2,hR3⟩)
      have hn1 : (R1 != R1)=false:=by simp
      have hn2 : (R2 != R2)=false:=by simp
      have hn3 : (R3 != R3)=false:=by simp
      have hF : ∀ u,Below Z.heap.size Z u→row u s=cN m.1 m.2.1 (.slice b1 m1 d1) (.slice b2 m2 d2) m.2.2.1.2.2 (.slice b3 m3 d3)∧s<u.heap.size∧row u p=cN m.1 m.2.1 (.slice e1 i1 j1) (.slice e2 i2 j2) m.2.2.1.2.2 (.slice e3 i3 j3)∧p<u.heap.size∧u.cell? ⟨t,2,none⟩=some (.int .i64 o3)∧t<u.heap.size:=fun u hu=>by
       have hx:=HXZ.out.stays hu
       have hy:=HYZ.out.stays hu
       have ho:=(hu.block t (Array.getElem?_eq_some_iff.1 HOZ.out).1).trans HOZ.out
       exact ⟨hx.row,hx.lt,hy.row,hy.lt,by simp [World.cell?,ho],(Array.getElem?_eq_some_iff.1 ho).1⟩
      have HBz:=lH (show ∀ u,Below Z.heap.size Z u→B.le u.heap.size from fun u hu=>HB.out u (nx HbZ.out hu))
      have hlf : fr'.length≤1000000:=Nat.le_trans HI'.out.len (by decide)
      clear hR1 hR2 hR3
      go_upto_region 27 with fail
      refine Rh.rb [0,1,2,3,4,5,6,7,8,9,10,11,12,13,14,15,16,17,18,19,20,21,22,23,24,25,26,27,28,29,30,31,32,33,34,35,36,37,38] ?_
      repeat (first | (refine Rh.Steps.sk ?_;simp only [Act.put,sA,sB,sC]) | (refine Rh.Steps.pu (v:=?_) ?_ ?_;rotate_left;(intro w_ hS_;have hk_:=hF w_ hS_;go_simp<;>with_reducible rfl);simp only [Act.put,sA,sB,sC]) | (refine Rh.Steps.ca (v:=?_) (f:=?_) (args:=?_) ?_ ?_ ?_;rotate_left 3;(intro w_ hS_;have hk_:=hF w_ hS_;go_simp<;>first | with_reducible rfl | (constructor<;>with_reducible rfl));(intro w_ hS_;have hk_:=hF w_ hS_;first | (go_at_call 9;refine (same_yes (B:=B) (B':=B) m _ _ w_ (HXZ.out.stays hS_).ln (HYZ.out.stays hS_).ln (HBz.out w_ hS_) (HBz.out w_ hS_) HI'.out.sm).mono ?_;first | (rintro e w_ ⟨rfl,rfl⟩;refine ⟨?_,Below.refl _ _⟩;with_reducible rfl) | (rintro e w_ ⟨rfl,hb_⟩;refine ⟨?_,hb_⟩;with_reducible rfl)) | (go_at_call 19;refine (holdings_yes fr' _ _ w_ (hl_stays HFZ.out hS_) (hl_stays HGZ.out hS_) hlf).mono ?_;first | (rintro e w_ ⟨rfl,rfl⟩;refine ⟨?_,Below.refl _ _⟩;with_reducible rfl) | (rintro e w_ ⟨rfl,hb_⟩;refine ⟨?_,hb_⟩;with_reducible rfl)) | (go_at_call 20;refine (res_is HR.out.1 (HXZ.out.stays hS_).ln (HBz.out w_ hS_) HI'.out.sm).mono ?_;first | (rintro e w_ ⟨rfl,rfl⟩;refine ⟨?_,Below.refl _ _⟩;with_reducible rfl) | (rintro e w_ ⟨rfl,hb_⟩;refine ⟨?_,hb_⟩;with_reducible rfl)) | (go_at_call 21;refine (rres_is HR.out.1 (HYZ.out.stays hS_).ln (HBz.out w_ hS_) HI'.out.sm).mono ?_;first | (rintro e w_ ⟨rfl,rfl⟩;refine ⟨?_,Below.refl _ _⟩;with_reducible rfl) | (rintro e w_ ⟨rfl,hb_⟩;refine ⟨?_,hb_⟩;with_reducible rfl)) | (go_at_call 22;refine (owe_is HR.out.2.1 (HXZ.out.stays hS_).ln (HBz.out w_ hS_) HI'.out.sm).mono ?_;first | (rintro e w_ ⟨rfl,rfl⟩;refine ⟨?_,Below.refl _ _⟩;with_reducible rfl) | (rintro e w_ ⟨rfl,hb_⟩;refine ⟨?_,hb_⟩;with_reducible rfl)) | (go_at_call 23;refine (rowe_is HR.out.2.1 (HYZ.out.stays hS_).ln (HBz.out w_ hS_) HI'.out.sm).mono ?_;first | (rintro e w_ ⟨rfl,rfl⟩;refine ⟨?_,Below.refl _ _⟩;with_reducible rfl) | (rintro e w_ ⟨rfl,hb_⟩;refine ⟨?_,hb_⟩;with_reducible rfl)) | (go_at_call 24;refine (lrt_is HR.out.2.2 (HXZ.out.stays hS_).ln (HBz.out w_ hS_) HI'.out.sm).mono ?_;first | (rintro e w_ ⟨rfl,rfl⟩;refine ⟨?_,Below.refl _ _⟩;with_reducible rfl) | (rintro e w_ ⟨rfl,hb_⟩;refine ⟨?_,hb_⟩;with_reducible rfl)) | (go_at_call 25;refine (rright_is HR.out.2.2 (HYZ.out.stays hS_).ln (HBz.out w_ hS_) HI'.out.sm).mono ?_;first | (rintro e w_ ⟨rfl,rfl⟩;refine ⟨?_,Below.refl _ _⟩;with_reducible rfl) | (rintro e w_ ⟨rfl,hb_⟩;refine ⟨?_,hb_⟩;with_reducible rfl)));simp only [Act.put,sA,sB,sC]))
      refine Rh.Steps.nil (by kernel_rfl) ?_
      intro w9_ hS9_ _
      go_wp2
      go_roundw
      case rel=>exact ⟨k+1,by omega,by go_num,nx HbZ.out hS9_,m,fr',_,_,_,_,_,_,_,_,_,_,_,_,_,_,_,_,_,_,_,_,_,_,_,_,HI'.out,HXZ.out.stays hS9_,HYZ.out.stays hS9_,rfl,rfl,hl_stays HFZ.out hS9_,hl_stays HGZ.out hS9_⟩
      case measure=>simp [intOf];omega
    ·have hd3 : (o1==3)=false:=by simpa using hk3
     clear hk2 hk3
     as_aux_lemma =>
      obtain ⟨rs,hrs⟩ : ∃ rs,(o1 != 1)=rs:=⟨_,rfl⟩
      have hfn:=place_fills (l:=l) (fr:=fr) o2 o3 o4 o5 rs
      have hI':=inv_place HI.out o2 o3 o4 o5 rs
      obtain ⟨⟨m,fr',fs,q,er⟩,hC⟩ : ∃ C,placeN l fr o2 o3 o4 o5 rs=C:=⟨_,rfl⟩
      rw [hC] at hI' hfn
      simp only at hI' hfn
      have HI':=lH hI'
      have HC:=lH hC
      have HFn:=lH hfn
      have hqq : (q != q)=false:=by simp
      have hee : (er != er)=false:=by simp
      clear hC hI' hfn
      go_wp2_with fail
      refine (lplace_any B l _ fr _ o2 o3 o4 o5 rs V HXV.out.ln HFV.out (HB.out V hbVw) HI.out.sm HI.out.len).mono ?_
      rw [HC.out]
      rintro e w3 ⟨v3,f3,g3,rfl,hd9,hln,hfl,hgl⟩
      simp only at hln hfl hgl
      obtain ⟨b1,m1,d1,b2,m2,d2,b3,m3,d3,rfl,-,-,-,h1,h2,h3⟩:=hln.open'
      obtain ⟨b4,d4,rfl⟩:=hl_slice hfl
      obtain ⟨g5,k5,rfl⟩:=hgl.len
      obtain ⟨X,hX⟩ : ∃ X,X=w3.alloc (.cells (cN m.1 m.2.1 (.slice b1 m1 d1) (.slice b2 m2 d2) m.2.2.1.2.2 (.slice b3 m3 d3)) 28):=⟨_,rfl⟩
      have hbX : Below w3.heap.size w3 X:=hX ▸ below1 w3 _
      have hb3w:=nx hbVw hd9
      have hbVX:=nx hd9 hbX
      have hbXw:=nx hbVw hbVX
      obtain ⟨bx,hbx⟩ : ∃ s,w3.heap.size=s:=⟨_,rfl⟩
      have hxx : LB B m (.slice b1 m1 d1) (.slice b2 m2 d2) (.slice b3 m3 d3) bx X:=by rw [hX,← hbx];exact LB.made h1 h2 h3 (HB.out w3 hb3w).1
      have hpx : p<bx∧s<bx∧t<bx:=by have:=hd9.size;have:=HzV.out;omega
      have HXX:=lH hxx
      have HX3:=lH (HXV.out.stays hbVX)
      have HY3:=lH (HYV.out.stays hbVX)
      have HG3:=lH (hl_stays HGV.out hbVX)
      have HFX:=lH (hl_stays hfl hbX)
      have HgX:=lH (Is.stays eFl 91 hgl hbX)
      have HXf:=lH hX
      have hy3:=HYV.out.stays hd9
      have HBx:=lH hbx
      clear r0 z0 x0 x1 x2 x3 x4 zo1 zo2
      obtain ⟨⟨x0,x1,x2,x3,x4⟩,zo1,zo2⟩:=HOp.out w3 hd9
      have y0:=hy3.row
      have z0':=hy3.lt
      clear hX hxx hy3 hbx hln hfl hgl h1 h2 h3 hd9 hbX hb3w
      go_wp2_with fail
      rw [← HXf.out,HBx.out]
      refine (rPlace10_any B l _ fr _ o2 o3 o4 o5 rs X HY3.out.ln HG3.out (HB.out X hbXw) HI.out.sm HI.out.len).mono ?_
      rw [HC.out]
      rintro e w4 ⟨v3,f3,g3,rfl,hd9,hln,hfl,hgl⟩
      simp only at hln hfl hgl
      obtain ⟨e1,i1,j1,e2,i2,j2,e3,i3,j3,rfl,-,-,-,h1,h2,h3⟩:=hln.open'
      obtain ⟨e4,j4,rfl⟩:=hl_slice hfl
      obtain ⟨g6,k6,rfl⟩:=hgl.len
      obtain ⟨Y,hY⟩ : ∃ X,X=w4.alloc (.cells (cN m.1 m.2.1 (.slice e1 i1 j1) (.slice e2 i2 j2) m.2.2.1.2.2 (.slice e3 i3 j3)) 28):=⟨_,rfl⟩
      have hbY : Below w4.heap.size w4 Y:=hY ▸ below1 w4 _
      have hb4w:=nx hbXw hd9
      have hbXY:=nx hd9 hbY
      have hbYw:=nx hbXw hbXY
      obtain ⟨by',hby⟩ : ∃ s,w4.heap.size=s:=⟨_,rfl⟩
      have hyy : LB B m (.slice e1 i1 j1) (.slice e2 i2 j2) (.slice e3 i3 j3) by' Y:=by rw [hY,← hby];exact LB.made h1 h2 h3 (HB.out w4 hb4w).1
      have hxY:=HXX.out.stays hbXY
      have hpy : bx<by':=by have:=(HXX.out.stays hd9).lt;omega
      have hw4:=(HXX.out.stays hd9)
      have HYY:=lH hyy
      have HXY:=lH hxY
      have HX4:=lH (HX3.out.stays hbXY)
      have HY4:=lH (HY3.out.stays hbXY)
      have HFY:=lH (hl_stays HFX.out hbXY)
      have HGY:=lH (hl_stays hfl hbY)
      have HhY:=lH (Is.stays eFl 91 hgl hbY)
      have HgY:=lH (Is.stays eFl 91 HgX.out hbXY)
      have HYf:=lH hY
      have HBy:=lH hby
      have HOY:=lH ((nx hbVX hbXY).block t (by rw [HzV.out];omega) |>.trans HOq.out)
      clear y0 z0' x0 x1 x2 x3 x4 zo1 zo2 hY hyy hby hln hfl hgl h1 h2 h3 hd9 hbY hb4w hw4 hxY hbVX
      go_wp2_with fail
      rw [← HYf.out,HBy.out]
      refine (fills_yes fs _ _ Y HgY.out HhY.out HFn.out).mono ?_
      rintro e W ⟨rfl,hb5⟩
      have HtW:=lH (two (w:=w) (HX4.out.stays hb5) (HY4.out.stays hb5) (HXY.out.stays hb5) (HYY.out.stays hb5) (hl_stays HFY.out hb5) (hl_stays HGY.out hb5) hsp (by omega) (by omega) (nx hbYw hb5) hsz)
      have HOW:=lH ((hb5.block t (Array.getElem?_eq_some_iff.1 HOY.out).1).trans HOY.out)
      obtain ⟨u1,u2,u3,u4,u5,u6,u7,u8,u9,_,_,_,_,_⟩:=HtW.out
      have t5:=(HXY.out.stays hb5).lt
      have t6:=(HYY.out.stays hb5).lt
      have hp9:=(HX4.out.stays hb5).lt
      have hq9:=(HY4.out.stays hb5).lt
      clear hb5 hbYw hbXY hbXw
      go_wp2
      go_region
      clear u1 u2 u3 u4 u5 u6 u7 u8 u9 hp9 hq9 t5 t6
      obtain ⟨Z,hZ⟩ : ∃ Z,Z=((W.setRow s (cN m.1 m.2.1 (.slice b1 m1 d1) (.slice b2 m2 d2) m.2.2.1.2.2 (.slice b3 m3 d3))).setRow p (cN m.1 m.2.1 (.slice e1 i1 j1) (.slice e2 i2 j2) m.2.2.1.2.2 (.slice e3 i3 j3))).drew:=⟨_,rfl⟩
      rw [← hZ]
      have hdr:=Below.refl ((W.setRow s (cN m.1 m.2.1 (.slice b1 m1 d1) (.slice b2 m2 d2) m.2.2.1.2.2 (.slice b3 m3 d3))).setRow p (cN m.1 m.2.1 (.slice e1 i1 j1) (.slice e2 i2 j2) m.2.2.1.2.2 (.slice e3 i3 j3))).heap.size ((W.setRow s (cN m.1 m.2.1 (.slice b1 m1 d1) (.slice b2 m2 d2) m.2.2.1.2.2 (.slice b3 m3 d3))).setRow p (cN m.1 m.2.1 (.slice e1 i1 j1) (.slice e2 i2 j2) m.2.2.1.2.2 (.slice e3 i3 j3))) |>.drew
      rw [← hZ] at hdr
      have HbZ:=lH (nx HtW.out.bel hdr)
      have HXZ:=lH (HtW.out.b1.stays hdr)
      have HYZ:=lH (HtW.out.b2.stays hdr)
      have HFZ:=lH (hl_stays HtW.out.fr1 hdr)
      have HGZ:=lH (hl_stays HtW.out.fr2 hdr)
      have HOZ:=lH (show Z.heap[t]?=some (.cells #[.int .i64 o1,.int .i64 o2,.int .i64 o3,.int .i64 o4,.int .i64 o5] 36 (0,0)) from (hdr.block t (by have:=(Array.getElem?_eq_some_iff.1 HOW.out).1;simpa using this)).trans ((setRow_other _ p t _ (by omega)).trans ((setRow_other W s t _ (by omega)).trans HOW.out)))
      clear hZ hdr
      obtain ⟨R1,hR1⟩ : ∃ x,reserved m o3=x:=⟨_,rfl⟩
      obtain ⟨R2,hR2⟩ : ∃ x,owedN m o3=x:=⟨_,rfl⟩
      obtain ⟨R3,hR3⟩ : ∃ x,rightN m=x:=⟨_,rfl⟩
      have HR:=lH (show reserved m o3=R1∧owedN m o3=R2∧rightN m=R3 from ⟨hR1,hR2,hR3⟩)
      have hn1 : (R1 != R1)=false:=by simp
      have hn2 : (R2 != R2)=false:=by simp
      have hn3 : (R3 != R3)=false:=by simp
      have hF : ∀ u,Below Z.heap.size Z u→row u s=cN m.1 m.2.1 (.slice b1 m1 d1) (.slice b2 m2 d2) m.2.2.1.2.2 (.slice b3 m3 d3)∧s<u.heap.size∧row u p=cN m.1 m.2.1 (.slice e1 i1 j1) (.slice e2 i2 j2) m.2.2.1.2.2 (.slice e3 i3 j3)∧p<u.heap.size∧u.cell? ⟨t,2,none⟩=some (.int .i64 o3)∧t<u.heap.size:=fun u hu=>by
       have hx:=HXZ.out.stays hu
       have hy:=HYZ.out.stays hu
       have ho:=(hu.block t (Array.getElem?_eq_some_iff.1 HOZ.out).1).trans HOZ.out
       exact ⟨hx.row,hx.lt,hy.row,hy.lt,by simp [World.cell?,ho],(Array.getElem?_eq_some_iff.1 ho).1⟩
      have HBz:=lH (show ∀ u,Below Z.heap.size Z u→B.le u.heap.size from fun u hu=>HB.out u (nx HbZ.out hu))
      have hlf : fr'.length≤1000000:=Nat.le_trans HI'.out.len (by decide)
      clear hR1 hR2 hR3
      go_upto_region 27 with fail
      refine Rh.rb [0,1,2,3,4,5,6,7,8,9,10,11,12,13,14,15,16,17,18,19,20,21,22,23,24,25,26,27,28,29,30,31,32,33,34,35,36,37,38] ?_
      repeat (first | (refine Rh.Steps.sk ?_;simp only [Act.put,sA,sB,sC]) | (refine Rh.Steps.pu (v:=?_) ?_ ?_;rotate_left;(intro w_ hS_;have hk_:=hF w_ hS_;go_simp<;>with_reducible rfl);simp only [Act.put,sA,sB,sC]) | (refine Rh.Steps.ca (v:=?_) (f:=?_) (args:=?_) ?_ ?_ ?_;rotate_left 3;(intro w_ hS_;have hk_:=hF w_ hS_;go_simp<;>first | with_reducible rfl | (constructor<;>with_reducible rfl));(intro w_ hS_;have hk_:=hF w_ hS_;first | (go_at_call 9;refine (same_yes (B:=B) (B':=B) m _ _ w_ (HXZ.out.stays hS_).ln (HYZ.out.stays hS_).ln (HBz.out w_ hS_) (HBz.out w_ hS_) HI'.out.sm).mono ?_;first | (rintro e w_ ⟨rfl,rfl⟩;refine ⟨?_,Below.refl _ _⟩;with_reducible rfl) | (rintro e w_ ⟨rfl,hb_⟩;refine ⟨?_,hb_⟩;with_reducible rfl)) | (go_at_call 19;refine (holdings_yes fr' _ _ w_ (hl_stays HFZ.out hS_) (hl_stays HGZ.out hS_) hlf).mono ?_;first | (rintro e w_ ⟨rfl,rfl⟩;refine ⟨?_,Below.refl _ _⟩;with_reducible rfl) | (rintro e w_ ⟨rfl,hb_⟩;refine ⟨?_,hb_⟩;with_reducible rfl)) | (go_at_call 20;refine (res_is HR.out.1 (HXZ.out.stays hS_).ln (HBz.out w_ hS_) HI'.out.sm).mono ?_;first | (rintro e w_ ⟨rfl,rfl⟩;refine ⟨?_,Below.refl _ _⟩;with_reducible rfl) | (rintro e w_ ⟨rfl,hb_⟩;refine ⟨?_,hb_⟩;with_reducible rfl)) | (go_at_call 21;refine (rres_is HR.out.1 (HYZ.out.stays hS_).ln (HBz.out w_ hS_) HI'.out.sm).mono ?_;first | (rintro e w_ ⟨rfl,rfl⟩;refine ⟨?_,Below.refl _ _⟩;with_reducible rfl) | (rintro e w_ ⟨rfl,hb_⟩;refine ⟨?_,hb_⟩;with_reducible rfl)) | (go_at_call 22;refine (owe_is HR.out.2.1 (HXZ.out.stays hS_).ln (HBz.out w_ hS_) HI'.out.sm).mono ?_;first | (rintro e w_ ⟨rfl,rfl⟩;refine ⟨?_,Below.refl _ _⟩;with_reducible rfl) | (rintro e w_ ⟨rfl,hb_⟩;refine ⟨?_,hb_⟩;with_reducible rfl)) | (go_at_call 23;refine (rowe_is HR.out.2.1 (HYZ.out.stays hS_).ln (HBz.out w_ hS_) HI'.out.sm).mono ?_;first | (rintro e w_ ⟨rfl,rfl⟩;refine ⟨?_,Below.refl _ _⟩;with_reducible rfl) | (rintro e w_ ⟨rfl,hb_⟩;refine ⟨?_,hb_⟩;with_reducible rfl)) | (go_at_call 24;refine (lrt_is HR.out.2.2 (HXZ.out.stays hS_).ln (HBz.out w_ hS_) HI'.out.sm).mono ?_;first | (rintro e w_ ⟨rfl,rfl⟩;refine ⟨?_,Below.refl _ _⟩;with_reducible rfl) | (rintro e w_ ⟨rfl,hb_⟩;refine ⟨?_,hb_⟩;with_reducible rfl)) | (go_at_call 25;refine (rright_is HR.out.2.2 (HYZ.out.stays hS_).ln (HBz.out w_ hS_) HI'.out.sm).mono ?_;first | (rintro e w_ ⟨rfl,rfl⟩;refine ⟨?_,Below.refl _ _⟩;with_reducible rfl) | (rintro e w_ ⟨rfl,hb_⟩;refine ⟨?_,hb_⟩;with_reducible rfl)));simp only [Act.put,sA,sB,sC]))
      refine Rh.Steps.nil (by kernel_rfl) ?_
      intro w9_ hS9_ _
      go_wp2
      go_roundw
      case rel=>exact ⟨k+1,by omega,by go_num,nx HbZ.out hS9_,m,fr',_,_,_,_,_,_,_,_,_,_,_,_,_,_,_,_,_,_,_,_,_,_,_,_,HI'.out,HXZ.out.stays hS9_,HYZ.out.stays hS9_,rfl,rfl,hl_stays HFZ.out hS9_,hl_stays HGZ.out hS9_⟩
      case measure=>simp [intOf];omega
  ·obtain rfl : k=N:=by omega
   go_wp2_with fail
   refine (awake_any wr).mono ?_
   rintro e w3 ⟨rfl,hb3⟩
   have hfin9:=nx hb hb3
   go_wp2
   go_ret
   exact ⟨rfl,hfin9⟩
theorem walkPlays2 (ops : List Op5) (v : Value) (lb lq : Int) (w : World) (h : PL (Bs.of w.heap.size) ops v w) (h60 : ¬ ops.length≤60) :
  Calls Tryz.prog 3 #[v,.int .i64 lb,.int .i64 lq] w fun e w'=>e=.returned (.bool true)∧Below w.heap.size w w':=by
 obtain ⟨a0,c0,rfl,hel⟩:=h
 obtain ⟨B,hB'⟩ : ∃ B,B=Bs.of w.heap.size:=⟨_,rfl⟩
 have hB : B.le w.heap.size:=by rw [hB'];exact Bs.of_le _
 obtain ⟨N,hn⟩ : ∃ N,N=ops.length:=⟨_,rfl⟩
 rw [← hn] at h60 ⊢
 have HE:=lH hel
 have HN:=lH hn
 have hd : decide ((60 : Int)<N)=true:=decide_eq_true (by omega)
 have hd' : decide (60<N)=true:=decide_eq_true (by omega)
 have HB:=lH (show ∀ u,Below w.heap.size w u→B.le u.heap.size from fun u hu=>hB.mono hu.size)
 obtain ⟨E,hE⟩ : ∃ E,newE lb lq=E:=⟨_,rfl⟩
 obtain ⟨l0,hl0⟩ : ∃ l,newN lb lq=l:=⟨_,rfl⟩
 have hI0 : Inv l0 (richK 60 4):=by rw [← hl0];exact inv_new lb lq 60
 have HI0:=lH hI0
 have heE : (E != E)=false:=by simp
 have HNw:=lH (lnew_any lb lq w)
 have HNr:=lH (show ∀ u,Calls Tryz.prog 8 #[.int .i64 lb,.int .i64 lq] u fun e w'=>∃ v,e=.returned (.tuple #[v,.int .i64 E])∧Below u.heap.size u w'∧LN B l0 v w' from fun u=>(rNew10_any lb lq u).mono fun e w' ⟨h1,h2⟩=>⟨_,by rw [← hE];exact h1,h2,by rw [← hl0];exact ln_new B lb lq w'⟩)
 have HE0:=lH (show newE lb lq=E∧newN lb lq=l0 from ⟨hE,hl0⟩)
 clear hel hn hB hB' hE hl0 hI0
 go_enter Tryz.func3,Tryz.ntmps3
 go_wp2_with fail
 refine HNw.out.mono ?_
 rintro e w1 ⟨v1,rfl,hb1,hln⟩
 have hln1:=hln B (HB.out w (Below.refl _ _))
 rw [HE0.out.2] at hln1
 obtain ⟨a1,n1,c1,a2,n2,c2,a3,n3,c3,rfl,-,-,-,hk1,hk2,hk3⟩:=hln1.open'
 rw [HE0.out.1]
 obtain ⟨M1,hM1⟩ : ∃ M,M=w1.alloc (.cells (cN l0.1 l0.2.1 (.slice a1 n1 c1) (.slice a2 n2 c2) l0.2.2.1.2.2 (.slice a3 n3 c3)) 28):=⟨_,rfl⟩
 have hbM1 : Below w.heap.size w M1:=nx hb1 (hM1 ▸ below1 w1 _)
 have HX1:=lH (show LB B l0 (.slice a1 n1 c1) (.slice a2 n2 c2) (.slice a3 n3 c3) w1.heap.size M1 from by rw [hM1];exact LB.made hk1 hk2 hk3 (HB.out w1 hb1).1)
 have HM1:=lH hM1
 obtain ⟨s,hs⟩ : ∃ s,w1.heap.size=s:=⟨_,rfl⟩
 rw [hs] at HX1
 have hsz : w.heap.size≤s:=by have:=hb1.size;omega
 clear hln hln1 hk1 hk2 hk3 hM1
 go_wp2_with fail
 rw [← HM1.out]
 refine (HNr.out M1).mono ?_
 rintro e w2 ⟨v2,rfl,hb2,hln⟩
 obtain ⟨e1,i1,j1,e2,i2,j2,e3,i3,j3,rfl,-,-,-,-,-,-⟩:=hln.open'
 have hbw2:=nx hbM1 hb2
 obtain ⟨M2,hM2⟩ : ∃ M,M=w2.alloc (.cells (cN l0.1 l0.2.1 (.slice e1 i1 j1) (.slice e2 i2 j2) l0.2.2.1.2.2 (.slice e3 i3 j3)) 28):=⟨_,rfl⟩
 have hbM2 : Below w.heap.size w M2:=nx hbw2 (hM2 ▸ below1 w2 _)
 have HM2:=lH hM2
 clear hln hM2
 go_wp2_with fail
 rw [← HM2.out]
 refine (awake_any M2).mono ?_
 rintro e w9 ⟨rfl,hb9⟩
 have hfin9:=nx hbM2 hb9
 go_wp2
 go_ret
 exact ⟨rfl,hfin9⟩
theorem walkPlays (ops : List Op5) (v : Value) (lb lq : Int) (w : World) (h : PL (Bs.of w.heap.size) ops v w) (_ : wfPs ops) {P Q : Prop} (_ : P) (_ : Q) :
  Calls Tryz.prog 3 #[v,.int .i64 lb,.int .i64 lq] w fun e w'=>e=.returned (.bool true)∧Below w.heap.size w w':=by
 by_cases h60 : ops.length≤60
 ·exact walkPlays1 ops v lb lq w h h60
 ·exact walkPlays2 ops v lb lq w h h60
end Go.Proofs.YthecinmekoaphaaGreat.La
