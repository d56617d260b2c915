/- ExchangeRight, walked. -/
import Derived.Test.YtacihckimlddbaaGreatQbZZ
import Derived.Test.YtacihckimlddbaaGreatQbBQ
import Derived.Test.YtacihckimlddbaaGreatQbBS
import Derived.Test.YtacihckimlddbaaGreatQbBT
set_option linter.unusedVariables false
set_option maxRecDepth 16000
set_option maxHeartbeats 32000000
namespace Go.Proofs.YtacihckimlddbaaGreat.Ex
open Go.RowKit
open Rw
open Da
open Cm (fc fc_at v9 zeroF eqF chkE)
open Se (Rp ret_bool)
theorem sameX_rf (x : Xc) : SameX x x:=⟨rfl,rfl,rfl,rfl,rfl,fun i a b ha hb=>by
 rw [ha] at hb;obtain rfl:=Option.some.inj hb;exact ⟨rfl,rfl,rfl,rfl,rfl,rfl⟩⟩
theorem zero_of {c : Cd} (h : chkE c=0∧c 2=0) : eqF c zeroF=true:=by
 obtain ⟨h,h0⟩:=h
 unfold Cm.chkE Cm.chkB at h
 cases e : Cm.zeroB c
 ·rw [e,Bool.false_or] at h
  cases e2 : Cm.limB c
  ·rw [e2] at h;exact absurd h (by decide)
  ·have:=((Cm.lim_eq c).1 e2).1;omega
 ·exact e
theorem walkRight (l : List Cd) (v : Value) (w : World) (h : CL (Bs.of w.heap.size) l v w) (hl : wfCs l) :
  Calls Tryz.prog 6 #[v] w fun e w'=>e=.returned (.bool true)∧Below w.heap.size w w':=by
 obtain ⟨a0,c0,rfl,hel⟩:=h
 obtain ⟨N,hN⟩ : ∃ N,N=l.length:=⟨_,rfl⟩
 rw [← hN]
 by_cases h60 : 60<N
 ·have hd1 : decide ((60 : Int)<N)=true:=decide_eq_true (by omega)
  clear hel hN h60 hl
  go_enter Tryz.func6,Tryz.ntmps6
  go_wp2_with fail
  refine (awake_any w).mono ?_
  rintro e w1 ⟨rfl,hb1⟩
  go_wp2
  go_ret
  exact ⟨rfl,hb1⟩
 have hd1 : decide ((60 : Int)<N)=false:=decide_eq_false (by omega)
 have h60 : N≤60:=by omega
 have HE:=lH hel
 have HN:=lH hN
 have H9:=lH hl.2
 clear hel hN hl
 go_enter Tryz.func6,Tryz.ntmps6
 go_wp2_with fail
 refine (fresh_any w.heap.size w (Nat.le_refl _)).mono ?_
 rintro e w1 ⟨v1,rfl,hb1,hx1⟩
 obtain ⟨_,_,_,_,_,rfl,hd⟩:=hx1
 obtain ⟨p1,q1,p2,q2,p3,q3,p4,q4,p5,q5,rfl,rfl,rfl,rfl,rfl⟩:=hd.open'
 obtain ⟨b,hbq⟩ : ∃ b,b=w1.heap.size:=⟨_,rfl⟩
 obtain ⟨V,hV⟩ : ∃ V,V=w1.alloc (.cells #[.slice p1 0 q1,.slice p2 2 q2,.slice p3 0 q3,.slice p4 0 q4,.slice p5 0 q5] 28):=⟨_,rfl⟩
 have HX0:=lH (show XB w.heap.size x0 (.slice p1 0 q1) (.slice p2 2 q2) (.slice p3 0 q3) (.slice p4 0 q4) (.slice p5 0 q5) b V from by rw [hV,hbq];exact XB.made hd hb1.size)
 have HB0:=lH (nx hb1 (hV ▸ below1 w1 _))
 have HV:=lH hV
 have HBq:=lH hbq
 clear hd hb1 hV hbq
 go_wp2
 rw [← HV.out,← HBq.out]
 go_loopw [16] (fun i wr=>∃ k : Nat,k≤N∧i=.int .i64 k∧Below w.heap.size w wr∧∃ f l' s i o,XB w.heap.size (runX x0 (l.take k)) f l' s i o b wr) (fun i _=>N - (intOf i).toNat)
 case atStart=>exact ⟨0,Nat.zero_le _,rfl,HB0.out,_,_,_,_,_,HX0.out⟩
 case round =>
  obtain ⟨k,hk,rfl,hb,f,l',s,i,o,hx⟩:=hrel
  have HBr:=lH hb
  obtain ⟨y,hy⟩ : ∃ y,runX x0 (l.take k)=y:=⟨_,rfl⟩
  rw [hy] at hx
  have HY:=lH (show RightX y from hy ▸ runX_right _ r0)
  have HQ:=lH (show Quiet y from hy ▸ runX_quiet _ r0 q0)
  obtain ⟨b1,c1,b2,c2,b3,c3,b4,c4,b5,c5,rfl,rfl,rfl,rfl,rfl⟩:=hx.d.open'
  by_cases hlt : k<N
  ·have hlt2 : (k : Int)<N:=by omega
   have hkl : k<l.length:=by rw [← HN.out];exact hlt
   rcases HE.out with ⟨e,_⟩ | ⟨cb,off,rfl,hat⟩
   ·rw [e] at hkl;cases hkl
   have hat2:=Lies.keep eC 35 hat (Keeps.of_below (B:=Bs.of w.heap.size) (hb.trans (Below.refl _ _)))
   have hcb:=hat2.1
   obtain ⟨e0,e1,e2,e3,e4,e5,e6,e7,e8,hc⟩:=H9.out _ (List.getElem_mem hkl)
   have q0 : wr.cell? ⟨cb,off+k*9,none⟩=some (.int .i64 e0):=by have:=atC hat2 k hkl 0 (by decide);rw [hc] at this;exact this
   have q1 : wr.cell? ⟨cb,off+k*9+1,none⟩=some (.int .i64 e1):=by have:=atC hat2 k hkl 1 (by decide);rw [hc] at this;exact this
   have q2 : wr.cell? ⟨cb,off+k*9+2,none⟩=some (.int .i64 e2):=by have:=atC hat2 k hkl 2 (by decide);rw [hc] at this;exact this
   have q3 : wr.cell? ⟨cb,off+k*9+3,none⟩=some (.int .i64 e3):=by have:=atC hat2 k hkl 3 (by decide);rw [hc] at this;exact this
   have q4 : wr.cell? ⟨cb,off+k*9+4,none⟩=some (.int .i64 e4):=by have:=atC hat2 k hkl 4 (by decide);rw [hc] at this;exact this
   have q5 : wr.cell? ⟨cb,off+k*9+5,none⟩=some (.int .i64 e5):=by have:=atC hat2 k hkl 5 (by decide);rw [hc] at this;exact this
   have q6 : wr.cell? ⟨cb,off+k*9+6,none⟩=some (.int .i64 e6):=by have:=atC hat2 k hkl 6 (by decide);rw [hc] at this;exact this
   have q7 : wr.cell? ⟨cb,off+k*9+7,none⟩=some (.int .i64 e7):=by have:=atC hat2 k hkl 7 (by decide);rw [hc] at this;exact this
   have q8 : wr.cell? ⟨cb,off+k*9+8,none⟩=some (.int .i64 e8):=by have:=atC hat2 k hkl 8 (by decide);rw [hc] at this;exact this
   obtain ⟨cd,hcd⟩ : ∃ c,v9 e0 e1 e2 e3 e4 e5 e6 e7 e8=c:=⟨_,rfl⟩
   obtain ⟨A,hA⟩ : ∃ A,apply y cd=A:=⟨_,rfl⟩
   obtain ⟨U,hU⟩ : ∃ U,U=wr.alloc (.cells (fc (v9 e0 e1 e2 e3 e4 e5 e6 e7 e8)) 35):=⟨_,rfl⟩
   have hbU : Below wr.heap.size wr U:=hU ▸ below1 wr _
   have hxU:=hx.stays hbU
   have x1 : row U b=#[.slice b1 y.free.length c1,.slice b2 y.lanes.length c2,.slice b3 y.sess.length c3,.slice b4 y.inn.length c4,.slice b5 y.out.length c5]:=hxU.row
   have hcbU : U.heap[wr.heap.size]?=some (.cells (fc cd) 35 (0,0)):=by rw [hU,← hcd];exact heap_alloc_new _ _
   have x2 : row U wr.heap.size=fc (v9 e0 e1 e2 e3 e4 e5 e6 e7 e8):=by rw [hcd];exact row_is hcbU
   have hlb : b<wr.heap.size:=hx.lt
   have HAp:=lH (show Calls Tryz.prog 14 #[.agg #[.slice b1 y.free.length c1,.slice b2 y.lanes.length c2,.slice b3 y.sess.length c3,.slice b4 y.inn.length c4,.slice b5 y.out.length c5],.agg (fc (v9 e0 e1 e2 e3 e4 e5 e6 e7 e8))] U (PostA w.heap.size A U) from by rw [← hA,← hcd];exact applyX_any w.heap.size y (.agg #[.slice b1 y.free.length c1,.slice b2 y.lanes.length c2,.slice b3 y.sess.length c3,.slice b4 y.inn.length c4,.slice b5 y.out.length c5]) (v9 e0 e1 e2 e3 e4 e5 e6 e7 e8) U ⟨_,_,_,_,_,rfl,hxU.d⟩ (nx hb hbU).size (smX_right HY.out))
   have HXr:=lH hxU
   have HCb:=lH hcbU
   have HA:=lH (show apply (runX x0 (l.take k)) l[k]=A from by rw [hy,hc,hcd];exact hA)
   have HAp2:=lH hA
   have HBU:=lH (nx hb hbU)
   have HU:=lH hU
   have HKc:=lH hcd
   rw [hU] at x1 x2
   clear hU hbU hxU hcbU hA hc hat hat2 hb hx hcd
   replace HBr:=HBU
   go_wp2_with fail
   rw [← HU.out]
   clear q0 q1 q2 q3 q4 q5 q6 q7 q8 x1 x2
   with_reducible refine HAp.out.mono ?_
   rintro e w2 ⟨v2,rfl,hb2,hx2⟩
   obtain ⟨_,_,_,_,_,rfl,dy⟩:=hx2
   obtain ⟨s1,t1,s2,t2,s3,t3,s4,t4,s5,t5,rfl,rfl,rfl,rfl,rfl⟩:=dy.open'
   obtain ⟨M,hM⟩ : ∃ M,M=(w2.alloc (.cells #[.slice s1 A.1.free.length t1,.slice s2 A.1.lanes.length t2,.slice s3 A.1.sess.length t3,.slice s4 A.1.inn.length t4,.slice s5 A.1.out.length t5] 28)).alloc (.cells #[.int .i64 A.2.1,.int .i64 A.2.2.1,.int .i64 A.2.2.2.1,.int .i64 A.2.2.2.2.1,.int .i64 A.2.2.2.2.2] 37):=⟨_,rfl⟩
   have hbM : Below w2.heap.size w2 M:=hM ▸ below2 w2 _ _
   have hby : M.heap[w2.heap.size]?=some (.cells #[.slice s1 A.1.free.length t1,.slice s2 A.1.lanes.length t2,.slice s3 A.1.sess.length t3,.slice s4 A.1.inn.length t4,.slice s5 A.1.out.length t5] 28 (0,0)):=by rw [hM,heap_al,if_neg (by simp),heap_al,if_pos rfl]
   have hbr : M.heap[w2.heap.size+1]?=some (.cells #[.int .i64 A.2.1,.int .i64 A.2.2.1,.int .i64 A.2.2.2.1,.int .i64 A.2.2.2.2.1,.int .i64 A.2.2.2.2.2] 37 (0,0)):=by rw [hM,heap_al,if_pos (by simp)]
   have HBy:=lH hby
   have HBrp:=lH hbr
   have HDy:=lH (dy.stays hbM)
   have HWM:=lH (nx hb2 hbM)
   have HK:=lH (apply_keep HY.out cd)
   rw [HAp2.out] at HK
   have HRt:=lH (rightX_is (lH (rightX_iff.2 HK.out.right)) ⟨_,_,_,_,_,rfl,HDy.out⟩ (nx HBr.out HWM.out).size (smX_right HK.out.right))
   have HNum:=lH (show A.2.2.2.1≠0→A.2.2.2.2.1=0∧A.2.2.2.2.2=0 from by have:=(apply_quiet HY.out HQ.out cd).1;rw [HAp2.out] at this;exact this)
   have HRep:=lH (show eqF cd zeroF=false→A.2.1=cd 0∧A.2.2.1=cd 1 from fun h=>by have:=apply_rep HY.out (c:=cd) (fun e=>by rw [zero_of e] at h;cases h);rw [HAp2.out] at this;exact this)
   have z1 : row M w2.heap.size=#[.slice s1 A.1.free.length t1,.slice s2 A.1.lanes.length t2,.slice s3 A.1.sess.length t3,.slice s4 A.1.inn.length t4,.slice s5 A.1.out.length t5]:=row_is hby
   rw [hM] at z1
   have HM:=lH hM
   clear hM hbM hby hbr dy hb2
   go_wp2_with fail
   rw [← HM.out]
   with_reducible refine HRt.out.mono ?_
   rintro e w3 ⟨rfl,hb3⟩
   clear z1
   have H3:=lH hb3
   have hcb3:=((nx HWM.out hb3).block _ (lt_of_some HCb.out)).trans HCb.out
   have hbr3:=(hb3.block _ (lt_of_some HBrp.out)).trans HBrp.out
   have z2 : row w3 wr.heap.size=fc cd:=row_is hcb3
   have z3 : w3.cell? ⟨wr.heap.size,0,none⟩=some (.int .i64 (cd 0)):=(cell_is hcb3).trans (fc_at cd 0 (by decide))
   have z4 : w3.cell? ⟨wr.heap.size,1,none⟩=some (.int .i64 (cd 1)):=(cell_is hcb3).trans (fc_at cd 1 (by decide))
   have z5 : w3.cell? ⟨w2.heap.size+1,0,none⟩=some (.int .i64 A.2.1):=cell_is hbr3
   have z6 : w3.cell? ⟨w2.heap.size+1,1,none⟩=some (.int .i64 A.2.2.1):=cell_is hbr3
   have z7 : w3.cell? ⟨w2.heap.size+1,2,none⟩=some (.int .i64 A.2.2.2.1):=cell_is hbr3
   have z8 : w3.cell? ⟨w2.heap.size+1,3,none⟩=some (.int .i64 A.2.2.2.2.1):=cell_is hbr3
   have z9 : w3.cell? ⟨w2.heap.size+1,4,none⟩=some (.int .i64 A.2.2.2.2.2):=cell_is hbr3
   have y1 : row w3 w2.heap.size=#[.slice s1 A.1.free.length t1,.slice s2 A.1.lanes.length t2,.slice s3 A.1.sess.length t3,.slice s4 A.1.inn.length t4,.slice s5 A.1.out.length t5]:=row_is ((hb3.block _ (lt_of_some HBy.out)).trans HBy.out)
   obtain ⟨g,hg⟩ : ∃ g,eqF cd zeroF=g:=⟨_,rfl⟩
   have T0 : g=true∨g=false∧(A.2.1 != cd 0)=false∧(A.2.2.1 != cd 1)=false:=by
    cases g
    ·obtain ⟨a,b⟩:=HRep.out hg
     exact .inr ⟨rfl,by rw [a];simp,by rw [b];simp⟩
    ·exact .inl rfl
   clear hcb3 hbr3
   have y2 : row w3 b=#[.slice b1 y.free.length c1,.slice b2 y.lanes.length c2,.slice b3 y.sess.length c3,.slice b4 y.inn.length c4,.slice b5 y.out.length c5]:=((HXr.out.stays (nx HWM.out hb3))).row
   have y3 : w3.cell? ⟨b,2,none⟩=some (.slice b3 y.sess.length c3):=((HXr.out.stays (nx HWM.out hb3))).cells.2.2.1
   have y4 : b<w3.heap.size:=((HXr.out.stays (nx HWM.out hb3))).lt
   have y5 : w2.heap.size+1<w3.heap.size:=lt_of_some ((H3.out.block _ (lt_of_some HBrp.out)).trans HBrp.out)
   have y6 : w2.heap.size<w3.heap.size:=by omega
   have HKl:=lH hkl
   have HT0:=lH T0
   have Hg:=lH hg
   clear hb3 T0 hg
   by_cases he : A.2.2.2.1=0
   ·have HU:=H3
    rw [he] at z7
    clear he
    rcases HT0.out with rfl | ⟨rfl,u1,u2⟩
    all_goals
     have hg:=Hg.out
     have hu:=HU.out
     have k1 : row w3 w2.heap.size=#[.slice s1 A.1.free.length t1,.slice s2 A.1.lanes.length t2,.slice s3 A.1.sess.length t3,.slice s4 A.1.inn.length t4,.slice s5 A.1.out.length t5]:=row_is ((hu.block _ (lt_of_some HBy.out)).trans HBy.out)
     have k2:=(HXr.out.stays (nx HWM.out hu)).bk
     have k3 : plain 5 w3 b=true:=plain_is k2 rfl
     obtain ⟨Z,hZ⟩ : ∃ Z,Z=w3.setRow b #[.slice s1 A.1.free.length t1,.slice s2 A.1.lanes.length t2,.slice s3 A.1.sess.length t3,.slice s4 A.1.inn.length t4,.slice s5 A.1.out.length t5]:=⟨_,rfl⟩
     have HF:=lH (show Below w.heap.size w Z∧XB w.heap.size A.1 (.slice s1 A.1.free.length t1) (.slice s2 A.1.lanes.length t2) (.slice s3 A.1.sess.length t3) (.slice s4 A.1.inn.length t4) (.slice s5 A.1.out.length t5) b Z from
      ⟨by rw [hZ];exact below_setRow (nx HBr.out (nx HWM.out hu)) HXr.out.lo _,by rw [hZ];exact setRow_heap w3 _ _ _ _ _ k2,HXr.out.lo,(HDy.out.stays hu).keep (by rw [hZ];exact Bk.keeps_setRow (B:=Bs.of w.heap.size) _ k2 (by decide) HXr.out.lo)⟩)
     have HZ:=lH hZ
     have k4 : b<w3.heap.size:=lt_of_some k2
     clear k2 hZ hu
     go_wp2
     go_roundw
     case rel=>exact ⟨k+1,by omega,by go_num,by first | exact HF.out.1 | (rw [← HZ.out];exact HF.out.1),_,_,_,_,_,by rw [runX_take HKl.out,HA.out];first | exact HF.out.2 | (rw [← HZ.out];exact HF.out.2)⟩
     case measure=>simp [intOf];omega
   ·have ne : (A.2.2.2.1 != 0)=true:=by simpa using he
    obtain ⟨n1,n2⟩:=HNum.out he
    rw [n1] at z8
    rw [n2] at z9
    obtain ⟨ss,hss⟩:=HK.out.err he
    obtain ⟨P,hP⟩ : ∃ P,P=w3.alloc (.cells #[.slice s1 A.1.free.length t1,.slice s2 A.1.lanes.length t2,.slice b3 y.sess.length c3,.slice s4 A.1.inn.length t4,.slice s5 A.1.out.length t5] 28):=⟨_,rfl⟩
    have hbP : Below w3.heap.size w3 P:=hP ▸ below1 w3 _
    have hMP:=nx H3.out hbP
    have HSm:=lH (show Calls Tryz.prog 17 #[.agg #[.slice s1 A.1.free.length t1,.slice s2 A.1.lanes.length t2,.slice b3 y.sess.length c3,.slice s4 A.1.inn.length t4,.slice s5 A.1.out.length t5],.agg #[.slice b1 y.free.length c1,.slice b2 y.lanes.length c2,.slice b3 y.sess.length c3,.slice b4 y.inn.length c4,.slice b5 y.out.length c5]] P fun e w'=>e=.returned (.bool true)∧Below P.heap.size P w' from by
     have d:=HDy.out.stays hMP
     have x:=(HXr.out.stays (nx HWM.out hMP)).d
     have e1 : A.1.free=y.free:=by rw [hss]
     have e2 : A.1.lanes=y.lanes:=by rw [hss]
     have e4 : A.1.inn=y.inn:=by rw [hss]
     have e5 : A.1.out=y.out:=by rw [hss]
     refine sameXc_is (lH (decB_yes (sameX_rf y))) ⟨_,_,_,_,_,rfl,⟨?_,?_,x.sess,?_,?_⟩⟩ ⟨_,_,_,_,_,rfl,x⟩ (nx HBr.out (nx HWM.out hMP)).size (smX_right HY.out) (smX_right HY.out)
     ·have q:=d.free;rw [← e1];exact q
     ·have q:=d.lanes;rw [← e2];exact q
     ·have q:=d.inn;rw [← e4];exact q
     ·have q:=d.out;rw [← e5];exact q)
    have HMP:=lH hMP
    have HP:=lH hP
    clear hP hbP hMP he hss n1 n2
    rcases HT0.out with rfl | ⟨rfl,u1,u2⟩
    all_goals
     have hg:=Hg.out
     go_wp2_with fail
     rw [← HP.out]
     with_reducible refine HSm.out.mono ?_
     rintro e w5 ⟨rfl,hb5⟩
     clear z2 z3 z4 z5 z6 z7 z8 z9 y1 y2 y3 y4 y5 y6 hg
     have HU:=lH (nx HMP.out hb5)
     clear hb5
     have hu:=HU.out
     have k1 : row w5 w2.heap.size=#[.slice s1 A.1.free.length t1,.slice s2 A.1.lanes.length t2,.slice s3 A.1.sess.length t3,.slice s4 A.1.inn.length t4,.slice s5 A.1.out.length t5]:=row_is ((hu.block _ (lt_of_some HBy.out)).trans HBy.out)
     have k2:=(HXr.out.stays (nx HWM.out hu)).bk
     have k3 : plain 5 w5 b=true:=plain_is k2 rfl
     obtain ⟨Z,hZ⟩ : ∃ Z,Z=w5.setRow b #[.slice s1 A.1.free.length t1,.slice s2 A.1.lanes.length t2,.slice s3 A.1.sess.length t3,.slice s4 A.1.inn.length t4,.slice s5 A.1.out.length t5]:=⟨_,rfl⟩
     have HF:=lH (show Below w.heap.size w Z∧XB w.heap.size A.1 (.slice s1 A.1.free.length t1) (.slice s2 A.1.lanes.length t2) (.slice s3 A.1.sess.length t3) (.slice s4 A.1.inn.length t4) (.slice s5 A.1.out.length t5) b Z from
      ⟨by rw [hZ];exact below_setRow (nx HBr.out (nx HWM.out hu)) HXr.out.lo _,by rw [hZ];exact setRow_heap w5 _ _ _ _ _ k2,HXr.out.lo,(HDy.out.stays hu).keep (by rw [hZ];exact Bk.keeps_setRow (B:=Bs.of w.heap.size) _ k2 (by decide) HXr.out.lo)⟩)
     have HZ:=lH hZ
     have k4 : b<w5.heap.size:=lt_of_some k2
     clear k2 hZ hu
     go_wp2
     go_roundw
     case rel=>exact ⟨k+1,by omega,by go_num,by first | exact HF.out.1 | (rw [← HZ.out];exact HF.out.1),_,_,_,_,_,by rw [runX_take HKl.out,HA.out];first | exact HF.out.2 | (rw [← HZ.out];exact HF.out.2)⟩
     case measure=>simp [intOf];omega
  ·obtain rfl : k=N:=by omega
   have hw:=HBr.out
   clear hx hb
   go_wp2_with fail
   refine (awake_any wr).mono ?_
   rintro e w2 ⟨rfl,hb2⟩
   have hf:=nx hw hb2
   go_wp2
   go_ret
   exact ⟨rfl,hf⟩
end Go.Proofs.YtacihckimlddbaaGreat.Ex
