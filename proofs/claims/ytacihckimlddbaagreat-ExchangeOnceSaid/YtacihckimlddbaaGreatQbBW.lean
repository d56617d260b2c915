/- ExchangeOnce, walked. -/
import Derived.Test.YtacihckimlddbaaGreatQbZZ
import Derived.Test.YtacihckimlddbaaGreatQbBV
set_option linter.unusedVariables false
set_option maxRecDepth 16000
set_option maxHeartbeats 32000000
namespace Go.Proofs.YtacihckimlddbaaGreat.Ex
open Go.RowKit
open Rw
open Da
open Cm (fc fc_at v9 zeroF eqF chkE check_is)
open Se (Rp Sn fnd ret_bool)
theorem kept_sess {z : Xc} (h : RightX z) {c : Cd} {s : Sn} (hs : fnd (c 0) z.sess=some s) {d : Cd} (hd : d 0≠c 0) : RightX (apply z d).1∧fnd (c 0) (apply z d).1.sess=some s :=
 ⟨(apply_keep h d).right,by rw [(apply_keep h d).sess _ (fun e=>hd e.symm)];exact hs⟩
theorem walkOnce (l : List Cd) (v : Value) (c : Cd) (m : List Cd) (u : Value) (w : World) (h : CL (Bs.of w.heap.size) l v w) (hl : wfCs l) (hc : Nine c) (hm : CL (Bs.of w.heap.size) m u w) (hml : wfCs m) :
  Calls Tryz.prog 7 #[v,.agg (fc c),u] w fun e w'=>e=.returned (.bool true)∧Below w.heap.size w w':=by
 obtain ⟨a0,c0,rfl,hel⟩:=h
 obtain ⟨a1,c1,rfl,hem⟩:=hm
 obtain ⟨N,hN⟩ : ∃ N,N=l.length:=⟨_,rfl⟩
 obtain ⟨M,hMl⟩ : ∃ M,M=m.length:=⟨_,rfl⟩
 rw [← hN,← hMl]
 obtain ⟨V,hV⟩ : ∃ V,V=w.alloc (.cells (fc c) 35):=⟨_,rfl⟩
 have hbV : Below w.heap.size w V:=hV ▸ below1 w _
 have b0 : V.heap[w.heap.size]?=some (.cells (fc c) 35 (0,0)):=by rw [hV];exact heap_alloc_new _ _
 have HV:=lH hV
 have HB:=lH hbV
 have HB0:=lH b0
 by_cases h40 : 40<N
 ·have hd1 : decide ((40 : Int)<N)=true:=decide_eq_true (by omega)
  clear hel hem hN hMl b0 hV hbV h40 hl hml hc
  go_enter Tryz.func7,Tryz.ntmps7
  go_wp2_with fail
  rw [← HV.out]
  refine (awake_any V).mono ?_
  rintro e w1 ⟨rfl,hb1⟩
  have hf:=nx HB.out hb1
  go_wp2
  go_ret
  exact ⟨rfl,hf⟩
 have hd1 : decide ((40 : Int)<N)=false:=decide_eq_false (by omega)
 by_cases h20 : 20<M
 ·have hd2 : decide ((20 : Int)<M)=true:=decide_eq_true (by omega)
  clear hel hem hN hMl b0 hV hbV h40 h20 hl hml hc
  go_enter Tryz.func7,Tryz.ntmps7
  go_wp2_with fail
  rw [← HV.out]
  refine (awake_any V).mono ?_
  rintro e w1 ⟨rfl,hb1⟩
  have hf:=nx HB.out hb1
  go_wp2
  go_ret
  exact ⟨rfl,hf⟩
 have hd2 : decide ((20 : Int)<M)=false:=decide_eq_false (by omega)
 have h20 : M≤20:=by omega
 have HCl:=lH (show CL (Bs.of w.heap.size) l (.slice a0 N c0) w from by rw [hN];exact ⟨a0,c0,rfl,hel⟩)
 have HN:=lH (show l.length≤100000∧∀ e∈l,Nine e from ⟨by omega,hl.2⟩)
 have HE:=lH hem
 have HM:=lH hMl
 have H9:=lH hml.2
 obtain ⟨k,hk⟩ : ∃ k,chkE c=k:=⟨_,rfl⟩
 have HCk:=lH hk
 obtain ⟨g,hg⟩ : ∃ g,eqF c zeroF=g:=⟨_,rfl⟩
 have Hg:=lH hg
 have z0 : row V w.heap.size=fc c:=row_is b0
 rw [hV] at z0
 clear hel hem hN hMl b0 hV hbV hl hml hc hk hg h40
 go_enter Tryz.func7,Tryz.ntmps7
 go_wp2_with fail
 rw [← HV.out]
 refine (check_is HCk V).mono ?_
 rintro e w1 ⟨rfl,hb1⟩
 clear z0
 have z1 : row w1 w.heap.size=fc c:=row_is ((hb1.block _ (lt_of_some HB0.out)).trans HB0.out)
 have y1 : w.heap.size<w1.heap.size:=lt_of_some ((hb1.block _ (lt_of_some HB0.out)).trans HB0.out)
 by_cases e0 : k=0
 case neg =>
  have ne : (k != 0)=true:=by simpa using e0
  clear e0 z1 y1
  go_wp2_with fail
  refine (awake_any w1).mono ?_
  rintro e w2 ⟨rfl,hb2⟩
  have hf:=nx HB.out (nx hb1 hb2)
  go_wp2
  go_ret
  exact ⟨rfl,hf⟩
 subst e0
 have hg:=Hg.out
 cases g
 case true =>
  go_wp2_with fail
  refine (awake_any w1).mono ?_
  rintro e w2 ⟨rfl,hb2⟩
  have hf:=nx HB.out (nx hb1 hb2)
  go_wp2
  go_ret
  exact ⟨rfl,hf⟩
 go_wp2_with fail
 clear z1 y1 hg
 refine (fresh_any w.heap.size w1 (nx HB.out hb1).size).mono ?_
 rintro e w2 ⟨v2,rfl,hb2,hx2⟩
 have hw2:=nx hb1 hb2
 obtain ⟨_,_,_,_,_,rfl,hd2'⟩:=id hx2
 obtain ⟨p1,q1,p2,q2,p3,q3,p4,q4,p5,q5,rfl,rfl,rfl,rfl,rfl⟩:=hd2'.open'
 clear hd2'
 have HRn:=lH (runX_any w.heap.size x0 _ l _ w2 hx2 (nx HB.out hw2).size (smX_right r0) (Is.up _ _ (Bs.sub_of (show (Bs.of w.heap.size).le w2.heap.size from ⟨(nx HB.out hw2).size,fun _ h=>h.elim⟩)) (Is.stays _ _ HCl.out (nx HB.out hw2))) HN.out.1 HN.out.2)
 have HY:=lH (runX_right l r0)
 obtain ⟨y,hy⟩ : ∃ y,runX x0 l=y:=⟨_,rfl⟩
 obtain ⟨rs,hrs⟩ : ∃ rs,runR x0 l=rs:=⟨_,rfl⟩
 rw [hy,hrs] at HRn
 rw [hy] at HY
 clear hx2 hy hrs
 go_wp2_with fail
 refine HRn.out.mono ?_
 rintro e w3 ⟨v3,g3,c3,rfl,hb3,hx3,-⟩
 obtain ⟨_,_,_,_,_,rfl,hd3⟩:=hx3
 obtain ⟨p1,q1,p2,q2,p3,q3,p4,q4,p5,q5,rfl,rfl,rfl,rfl,rfl⟩:=hd3.open'
 obtain ⟨W,hW⟩ : ∃ W,W=w3.alloc (.cells #[.slice p1 y.free.length q1,.slice p2 y.lanes.length q2,.slice p3 y.sess.length q3,.slice p4 y.inn.length q4,.slice p5 y.out.length q5] 28):=⟨_,rfl⟩
 have hbW : Below w3.heap.size w3 W:=hW ▸ below1 w3 _
 have hbx : W.heap[w3.heap.size]?=some (.cells #[.slice p1 y.free.length q1,.slice p2 y.lanes.length q2,.slice p3 y.sess.length q3,.slice p4 y.inn.length q4,.slice p5 y.out.length q5] 28 (0,0)):=by rw [hW];exact heap_alloc_new _ _
 have hvW:=nx (nx hw2 hb3) hbW
 have HX:=lH (show ∀ u,Below W.heap.size W u→(row u w3.heap.size=#[.slice p1 y.free.length q1,.slice p2 y.lanes.length q2,.slice p3 y.sess.length q3,.slice p4 y.inn.length q4,.slice p5 y.out.length q5]∧w3.heap.size<u.heap.size)∧XV w.heap.size y (.agg #[.slice p1 y.free.length q1,.slice p2 y.lanes.length q2,.slice p3 y.sess.length q3,.slice p4 y.inn.length q4,.slice p5 y.out.length q5]) u∧w.heap.size≤u.heap.size∧(row u w.heap.size=fc c∧w.heap.size<u.heap.size∧u.cell? ⟨w.heap.size,0,none⟩=some (.int .i64 (c 0))) from fun u hu=>by
  have hq:=((nx hvW hu).block _ (lt_of_some HB0.out)).trans HB0.out
  exact ⟨⟨row_is ((hu.block _ (lt_of_some hbx)).trans hbx),Nat.lt_of_lt_of_le (lt_of_some hbx) hu.size⟩,⟨_,_,_,_,_,rfl,hd3.stays (nx hbW hu)⟩,(nx HB.out (nx hvW hu)).size,row_is hq,lt_of_some hq,(cell_is hq).trans (fc_at c 0 (by decide))⟩)
 obtain ⟨⟨x1,x2⟩,-,x3,x4,x5,-⟩:=HX.out W (Below.refl _ _)
 rw [hW] at x1 x4
 have HW:=lH hW
 have HBW:=lH (nx HB.out hvW)
 have HzW:=lH (show W.heap.size=w3.heap.size+1 from by rw [HW.out];simp)
 have h20' : c 2≠0:=fun e=>by have:=zero_of ⟨HCk.out,e⟩;rw [Hg.out] at this;cases this
 obtain ⟨A,hA⟩ : ∃ A,apply y c=A:=⟨_,rfl⟩
 have HKp:=apply_kept HY.out HCk.out h20'
 have HAR:=lH (show RightX A.1 from hA ▸ (apply_keep HY.out c).right)
 rw [hA] at HKp
 have HKp:=lH HKp
 have H20:=lH h20'
 have h1:=applyX_any w.heap.size y (.agg #[.slice p1 y.free.length q1,.slice p2 y.lanes.length q2,.slice p3 y.sess.length q3,.slice p4 y.inn.length q4,.slice p5 y.out.length q5]) c W (HX.out W (Below.refl _ _)).2.1 (HX.out W (Below.refl _ _)).2.2.1 (smX_right HY.out)
 rw [hA] at h1
 have h1:=lH h1
 clear hd3 hW hbW hbx hvW hw2 hb3 hb2 hb1 h20' hA
 go_wp2_with fail
 rw [← HW.out]
 with_reducible refine h1.out.mono ?_
 clear h1 x1 x2 x3 x4 x5
 rintro e w4 ⟨v4,rfl,hb4,hx4⟩
 obtain ⟨_,_,_,_,_,rfl,dy⟩:=hx4
 obtain ⟨s1,t1,s2,t2,s3,t3,s4,t4,s5,t5,rfl,rfl,rfl,rfl,rfl⟩:=dy.open'
 obtain ⟨b,hbq⟩ : ∃ b,b=w4.heap.size:=⟨_,rfl⟩
 obtain ⟨K,hK⟩ : ∃ K,K=(w4.alloc (.cells #[.slice s1 A.1.free.length t1,.slice s2 A.1.lanes.length t2,.slice s3 A.1.sess.length t3,.slice s4 A.1.inn.length t4,.slice s5 A.1.out.length t5] 28)).alloc (.cells #[.int .i64 A.2.1,.int .i64 A.2.2.1,.int .i64 A.2.2.2.1,.int .i64 A.2.2.2.2.1,.int .i64 A.2.2.2.2.2] 37):=⟨_,rfl⟩
 have hbK : Below w4.heap.size w4 K:=hK ▸ below2 w4 _ _
 have hbr : K.heap[b+1]?=some (.cells #[.int .i64 A.2.1,.int .i64 A.2.2.1,.int .i64 A.2.2.2.1,.int .i64 A.2.2.2.2.1,.int .i64 A.2.2.2.2.2] 37 (0,0)):=by rw [hK,hbq,heap_al,if_pos (by simp)]
 have HWK:=lH (nx hb4 hbK)
 have hbl : w3.heap.size<b:=by have:=hb4.size;have:=HzW.out;omega
 have hbn : w.heap.size<b:=by have:=(HX.out W (Below.refl _ _)).2.2.2.2.1;have:=hb4.size;omega
 have HX0:=lH (show XB w.heap.size A.1 (.slice s1 A.1.free.length t1) (.slice s2 A.1.lanes.length t2) (.slice s3 A.1.sess.length t3) (.slice s4 A.1.inn.length t4) (.slice s5 A.1.out.length t5) b K from by
  rw [hK,hbq];exact (XB.made dy (by omega)).stays (below1 _ _))
 have HBr:=lH hbr
 have z7 : K.cell? ⟨b+1,2,none⟩=some (.int .i64 A.2.2.2.1):=cell_is hbr
 have HK:=lH hK
 have HBq:=lH hbq
 clear dy hbr hb4 hbK hK hbq
 have hK7 : ∀ u,Below b K u→Below W.heap.size W u:=fun u hu=>HWK.out.trans (hu.mono (by rw [HzW.out];omega))
 have HK7:=lH hK7
 by_cases e13 : A.2.2.2.1=13
 case pos =>
  rw [e13] at z7
  have e1 : A.1=y:=by
   rcases HKp.out with ⟨_,k⟩ | ⟨k,_⟩
   ·exact k
   ·exact absurd e13 k
  obtain ⟨⟨x1,x2⟩,xv,x3,-⟩:=HX.out K HWK.out
  have y1 : row K b=#[.slice s1 A.1.free.length t1,.slice s2 A.1.lanes.length t2,.slice s3 A.1.sess.length t3,.slice s4 A.1.inn.length t4,.slice s5 A.1.out.length t5]:=HX0.out.row
  have y2 : b<K.heap.size:=HX0.out.lt
  have y3 : b+1<K.heap.size:=lt_of_some HBr.out
  have HS:=lH (sameXc_is (lH (decB_yes (show SameX y A.1 by rw [e1];exact sameX_rf y))) xv ⟨_,_,_,_,_,rfl,HX0.out.d⟩ x3 (smX_right HY.out) (smX_right HAR.out))
  clear hK7 hbl hbn xv x3 e13 e1
  have eb : b=w4.heap.size:=HBq.out
  rw [HK.out,eb] at z7 y1 y2 y3
  rw [HK.out] at x1 x2
  clear eb
  go_wp2_with fail
  rw [← HK.out]
  with_reducible refine HS.out.mono ?_
  rintro e w5 ⟨rfl,hb5⟩
  clear x1 x2 y1 y2 y3 z7
  go_wp2_with fail
  refine (awake_any w5).mono ?_
  rintro e w6 ⟨rfl,hb6⟩
  have hf:=nx HBW.out (nx HWK.out (nx hb5 hb6))
  go_wp2
  go_ret
  exact ⟨rfl,hf⟩
 have ne : (A.2.2.2.1==13)=false:=by simpa using e13
 obtain ⟨sn,hs1,hs2,hs3⟩ : ∃ s,fnd (c 0) A.1.sess=some s∧s.2.1=c 1∧s.2.2=A.2:=by
  rcases HKp.out with ⟨k,_⟩ | ⟨_,k⟩
  ·exact absurd k e13
  ·exact k
 have HSn:=lH hs1
 have HSq:=lH (show sn.2.1=c 1∧sn.2.2=A.2 from ⟨hs2,hs3⟩)
 have y3 : b+1<K.heap.size:=lt_of_some HBr.out
 have eb : b=w4.heap.size:=HBq.out
 rw [HK.out,eb] at z7 y3
 clear eb
 clear hs1 hs2 hs3 e13 hK7
 go_wp2
 rw [← HK.out,← HBq.out]
 clear z7 y3
 have HXK:=HX0
 go_loopw [57] (fun i wr=>∃ k : Nat,k≤M∧i=.int .i64 k∧Below b K wr∧wr.heap[b+1]?=some (.cells #[.int .i64 A.2.1,.int .i64 A.2.2.1,.int .i64 A.2.2.2.1,.int .i64 A.2.2.2.2.1,.int .i64 A.2.2.2.2.2] 37 (0,0))∧∃ z f l' s i o,(RightX z∧fnd (c 0) z.sess=some sn)∧XB w.heap.size z f l' s i o b wr) (fun i _=>M - (intOf i).toNat)
 case atStart=>exact ⟨0,Nat.zero_le _,rfl,Below.refl _ _,HBr.out,A.1,_,_,_,_,_,⟨HAR.out,HSn.out⟩,HX0.out⟩
 case round =>
  obtain ⟨k,hk,rfl,hb,hbr,z,f,l',s,i,o,hz,hx⟩:=hrel
  obtain ⟨b1,c1,b2,c2,b3,c3,b4,c4,b5,c5,rfl,rfl,rfl,rfl,rfl⟩:=hx.d.open'
  have HZ:=lH hz
  have hwr:=HK7.out wr hb
  by_cases hlt : k<M
  ·have hlt2 : (k : Int)<M:=by omega
   have hkl : k<m.length:=by rw [← HM.out];exact hlt
   rcases HE.out with ⟨e,_⟩ | ⟨cb,off,rfl,hat⟩
   ·rw [e] at hkl;cases hkl
   have hat2:=Lies.keep eC 35 hat (Keeps.of_below (B:=Bs.of w.heap.size) ((nx HBW.out hwr).trans (Below.refl _ _)))
   have hcb:=hat2.1
   obtain ⟨e0,e1,e2,e3,e4,e5,e6,e7,e8,hc⟩:=H9.out _ (List.getElem_mem hkl)
   have q0 : wr.cell? ⟨cb,off+k*9,none⟩=some (.int .i64 e0):=by have:=atC hat2 k hkl 0 (by decide);rw [hc] at this;exact this
   have q1 : wr.cell? ⟨cb,off+k*9+1,none⟩=some (.int .i64 e1):=by have:=atC hat2 k hkl 1 (by decide);rw [hc] at this;exact this
   have q2 : wr.cell? ⟨cb,off+k*9+2,none⟩=some (.int .i64 e2):=by have:=atC hat2 k hkl 2 (by decide);rw [hc] at this;exact this
   have q3 : wr.cell? ⟨cb,off+k*9+3,none⟩=some (.int .i64 e3):=by have:=atC hat2 k hkl 3 (by decide);rw [hc] at this;exact this
   have q4 : wr.cell? ⟨cb,off+k*9+4,none⟩=some (.int .i64 e4):=by have:=atC hat2 k hkl 4 (by decide);rw [hc] at this;exact this
   have q5 : wr.cell? ⟨cb,off+k*9+5,none⟩=some (.int .i64 e5):=by have:=atC hat2 k hkl 5 (by decide);rw [hc] at this;exact this
   have q6 : wr.cell? ⟨cb,off+k*9+6,none⟩=some (.int .i64 e6):=by have:=atC hat2 k hkl 6 (by decide);rw [hc] at this;exact this
   have q7 : wr.cell? ⟨cb,off+k*9+7,none⟩=some (.int .i64 e7):=by have:=atC hat2 k hkl 7 (by decide);rw [hc] at this;exact this
   have q8 : wr.cell? ⟨cb,off+k*9+8,none⟩=some (.int .i64 e8):=by have:=atC hat2 k hkl 8 (by decide);rw [hc] at this;exact this
   obtain ⟨U,hU⟩ : ∃ U,U=wr.alloc (.cells (fc (v9 e0 e1 e2 e3 e4 e5 e6 e7 e8)) 35):=⟨_,rfl⟩
   have hbU : Below wr.heap.size wr U:=hU ▸ below1 wr _
   have hxU:=hx.stays hbU
   have hbbU : Below b K U:=hb.trans (hbU.mono (Nat.le_of_lt hx.lt))
   have hbrU:=(hbU.block _ (lt_of_some hbr)).trans hbr
   have hcbU : U.heap[wr.heap.size]?=some (.cells (fc (v9 e0 e1 e2 e3 e4 e5 e6 e7 e8)) 35 (0,0)):=by rw [hU];exact heap_alloc_new _ _
   have x1 : row U b=#[.slice b1 z.free.length c1,.slice b2 z.lanes.length c2,.slice b3 z.sess.length c3,.slice b4 z.inn.length c4,.slice b5 z.out.length c5]:=hxU.row
   have x2 : row U wr.heap.size=fc (v9 e0 e1 e2 e3 e4 e5 e6 e7 e8):=row_is hcbU
   have x3 : U.cell? ⟨wr.heap.size,0,none⟩=some (.int .i64 e0):=cell_is hcbU
   obtain ⟨-,-,x4,-,x5,x6⟩:=HX.out U (HK7.out U hbbU)
   have hlb : b<U.heap.size:=hxU.lt
   have hlc : wr.heap.size<U.heap.size:=lt_of_some hcbU
   have HXU:=lH hxU
   have HbU:=lH hbbU
   have HbrU:=lH hbrU
   have HU:=lH hU
   by_cases hd : e0=c 0
   ·have ne : (e0 != c 0)=false:=by simpa using hd
    rw [hU] at x1 x2 x3 x5 x6 hlb hlc
    clear hU hbU hxU hcbU hbbU hbrU hc hat hat2 hb hx hbr hz hwr hd x4
    go_wp2
    rw [← HU.out]
    go_roundw
    case rel=>exact ⟨k+1,by omega,by go_num,HbU.out,HbrU.out,_,_,_,_,_,_,HZ.out,HXU.out⟩
    case measure=>simp [intOf];omega
   ·have ne : (e0 != c 0)=true:=by simpa using hd
    have HN9:=lH (show v9 e0 e1 e2 e3 e4 e5 e6 e7 e8 0≠c 0 from hd)
    obtain ⟨d,hcd⟩ : ∃ d,v9 e0 e1 e2 e3 e4 e5 e6 e7 e8=d:=⟨_,rfl⟩
    have HAp:=lH (applyX_any w.heap.size z (.agg #[.slice b1 z.free.length c1,.slice b2 z.lanes.length c2,.slice b3 z.sess.length c3,.slice b4 z.inn.length c4,.slice b5 z.out.length c5]) (v9 e0 e1 e2 e3 e4 e5 e6 e7 e8) U ⟨_,_,_,_,_,rfl,hxU.d⟩ x4 (smX_right HZ.out.1))
    have HKs:=kept_sess HZ.out.1 HZ.out.2 HN9.out
    obtain ⟨R,hR⟩ : ∃ R,apply z (v9 e0 e1 e2 e3 e4 e5 e6 e7 e8)=R:=⟨_,rfl⟩
    rw [hR] at HAp HKs
    have HKs:=lH HKs
    rw [hU] at x1 x2 x3 x5 x6 hlb hlc
    clear hU hbU hxU hcbU hbbU hbrU hc hat hat2 hb hx hbr hz hwr hd x4 hR hcd
    go_wp2_with fail
    rw [← HU.out]
    clear q0 q1 q2 q3 q4 q5 q6 q7 q8 x1 x2 x3 x5 x6
    with_reducible refine HAp.out.mono ?_
    rintro e w5 ⟨v5,rfl,hb5,hx5⟩
    obtain ⟨_,_,_,_,_,rfl,d5⟩:=hx5
    obtain ⟨s1,t1,s2,t2,s3,t3,s4,t4,s5,t5,rfl,rfl,rfl,rfl,rfl⟩:=d5.open'
    have hx5:=HXU.out.stays hb5
    have hbr5:=(hb5.block _ (lt_of_some HbrU.out)).trans HbrU.out
    have k3 : plain 5 w5 b=true:=plain_is hx5.bk rfl
    have k4 : b<w5.heap.size:=lt_of_some hx5.bk
    obtain ⟨Z,hZ⟩ : ∃ Z,Z=w5.setRow b #[.slice s1 R.1.free.length t1,.slice s2 R.1.lanes.length t2,.slice s3 R.1.sess.length t3,.slice s4 R.1.inn.length t4,.slice s5 R.1.out.length t5]:=⟨_,rfl⟩
    have HF:=lH (show Below b K Z∧Z.heap[b+1]?=some (.cells #[.int .i64 A.2.1,.int .i64 A.2.2.1,.int .i64 A.2.2.2.1,.int .i64 A.2.2.2.2.1,.int .i64 A.2.2.2.2.2] 37 (0,0))∧XB w.heap.size R.1 (.slice s1 R.1.free.length t1) (.slice s2 R.1.lanes.length t2) (.slice s3 R.1.sess.length t3) (.slice s4 R.1.inn.length t4) (.slice s5 R.1.out.length t5) b Z from
     ⟨by rw [hZ];exact below_setRow (HbU.out.trans (hb5.mono (Nat.le_of_lt HXU.out.lt))) (Nat.le_refl _) _,by rw [hZ,setRow_other w5 b (b+1) _ (by omega)];exact hbr5,by rw [hZ];exact setRow_heap w5 _ _ _ _ _ hx5.bk,hx5.lo,d5.keep (by rw [hZ];exact Bk.keeps_setRow (B:=Bs.of w.heap.size) _ hx5.bk (by decide) hx5.lo)⟩)
    have HZ5:=lH hZ
    clear hZ hx5 hbr5 hb5 d5
    go_wp2
    rw [← HZ5.out]
    go_roundw
    case rel=>exact ⟨k+1,by omega,by go_num,HF.out.1,HF.out.2.1,_,_,_,_,_,_,HKs.out,HF.out.2.2⟩
    case measure=>simp [intOf];omega
  ·obtain rfl : k=M:=by omega
   have x1 : row wr b=#[.slice b1 z.free.length c1,.slice b2 z.lanes.length c2,.slice b3 z.sess.length c3,.slice b4 z.inn.length c4,.slice b5 z.out.length c5]:=hx.row
   obtain ⟨-,-,x4,x5,x6,-⟩:=HX.out wr hwr
   have hlb : b<wr.heap.size:=hx.lt
   have HAg:=apply_again HZ.out.1 HCk.out H20.out HZ.out.2 HSq.out.1
   rw [HSq.out.2] at HAg
   have HAp:=applyX_any w.heap.size z (.agg #[.slice b1 z.free.length c1,.slice b2 z.lanes.length c2,.slice b3 z.sess.length c3,.slice b4 z.inn.length c4,.slice b5 z.out.length c5]) c wr ⟨_,_,_,_,_,rfl,hx.d⟩ x4 (smX_right HZ.out.1)
   rw [HAg] at HAp
   have HAp:=lH HAp
   have HXr:=lH hx
   have Hbr:=lH hbr
   have Hwr:=lH hwr
   clear hx hb hbr hwr hz HAg x4
   go_wp2_with fail
   with_reducible refine HAp.out.mono ?_
   clear x1 x5 x6
   rintro e w5 ⟨v5,rfl,hb5,hx5⟩
   obtain ⟨_,_,_,_,_,rfl,d5⟩:=hx5
   obtain ⟨s1,t1,s2,t2,s3,t3,s4,t4,s5,t5,rfl,rfl,rfl,rfl,rfl⟩:=d5.open'
   obtain ⟨J,hJ⟩ : ∃ J,J=(w5.alloc (.cells #[.slice s1 z.free.length t1,.slice s2 z.lanes.length t2,.slice s3 z.sess.length t3,.slice s4 z.inn.length t4,.slice s5 z.out.length t5] 28)).alloc (.cells #[.int .i64 A.2.1,.int .i64 A.2.2.1,.int .i64 A.2.2.2.1,.int .i64 A.2.2.2.2.1,.int .i64 A.2.2.2.2.2] 37):=⟨_,rfl⟩
   have hbJ : Below w5.heap.size w5 J:=hJ ▸ below2 w5 _ _
   have hrJ:=nx hb5 hbJ
   have g1 : J.heap[w5.heap.size]?=some (.cells #[.slice s1 z.free.length t1,.slice s2 z.lanes.length t2,.slice s3 z.sess.length t3,.slice s4 z.inn.length t4,.slice s5 z.out.length t5] 28 (0,0)):=by rw [hJ,heap_al,if_neg (by simp),heap_al,if_pos rfl]
   have g2 : J.heap[w5.heap.size+1]?=some (.cells #[.int .i64 A.2.1,.int .i64 A.2.2.1,.int .i64 A.2.2.2.1,.int .i64 A.2.2.2.2.1,.int .i64 A.2.2.2.2.2] 37 (0,0)):=by rw [hJ,heap_al,if_pos (by simp)]
   have g3:=(hrJ.block _ (lt_of_some Hbr.out)).trans Hbr.out
   have y1 : row J w5.heap.size=#[.slice s1 z.free.length t1,.slice s2 z.lanes.length t2,.slice s3 z.sess.length t3,.slice s4 z.inn.length t4,.slice s5 z.out.length t5]:=row_is g1
   have y2 : row J (w5.heap.size+1)=#[.int .i64 A.2.1,.int .i64 A.2.2.1,.int .i64 A.2.2.2.1,.int .i64 A.2.2.2.2.1,.int .i64 A.2.2.2.2.2]:=row_is g2
   have y3 : row J (b+1)=#[.int .i64 A.2.1,.int .i64 A.2.2.1,.int .i64 A.2.2.2.1,.int .i64 A.2.2.2.2.1,.int .i64 A.2.2.2.2.2]:=row_is g3
   have y4 : row J b=#[.slice b1 z.free.length c1,.slice b2 z.lanes.length c2,.slice b3 z.sess.length c3,.slice b4 z.inn.length c4,.slice b5 z.out.length c5]:=(HXr.out.stays hrJ).row
   have y5 : w5.heap.size<J.heap.size:=lt_of_some g1
   have y6 : w5.heap.size+1<J.heap.size:=lt_of_some g2
   have y7 : b<J.heap.size:=(HXr.out.stays hrJ).lt
   have y8 : b+1<J.heap.size:=lt_of_some g3
   have he : Se.eqR (A.2.1,A.2.2.1,A.2.2.2.1,A.2.2.2.2.1,A.2.2.2.2.2) (A.2.1,A.2.2.1,A.2.2.2.1,A.2.2.2.2.1,A.2.2.2.2.2)=true:=Se.eqR_iff.2 rfl
   have he2 : Se.eqR A.2 A.2=true:=Se.eqR_iff.2 rfl
   have HS:=lH (sameXc_is (lH (decB_yes (sameX_rf z))) ⟨_,_,_,_,_,rfl,d5.stays hbJ⟩ ⟨_,_,_,_,_,rfl,(HXr.out.stays hrJ).d⟩ (nx HBW.out (nx Hwr.out hrJ)).size (smX_right HZ.out.1) (smX_right HZ.out.1))
   have HBJ:=lH (nx HBW.out (nx Hwr.out hrJ))
   rw [hJ] at y1 y2 y3 y4 y5 y6 y7 y8
   have HJ:=lH hJ
   clear hJ hbJ hrJ g1 g2 g3 d5 hb5
   go_wp2_with fail
   rw [← HJ.out]
   with_reducible refine HS.out.mono ?_
   rintro e w6 ⟨rfl,hb6⟩
   clear y1 y2 y3 y4 y5 y6 y7 y8 he he2
   go_wp2_with fail
   refine (awake_any w6).mono ?_
   rintro e w7 ⟨rfl,hb7⟩
   have hf:=nx HBJ.out (nx hb6 hb7)
   go_wp2
   go_ret
   exact ⟨rfl,hf⟩
end Go.Proofs.YtacihckimlddbaaGreat.Ex
