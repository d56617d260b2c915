/- Package exchange as it landed: Right. -/
import Derived.Test.YtjhocpcpkemcaaaGreatQeZZ
import Derived.Test.YtjhocpcpkemcaaaGreatQeBO
import Derived.Test.YtjhocpcpkemcaaaGreatQeBI
import Derived.Test.YtjhocpcpkemcaaaGreatQeAZ
import Derived.Test.YtjhocpcpkemcaaaGreatQeAY
set_option linter.unusedVariables false
set_option maxRecDepth 16000
set_option maxHeartbeats 32000000
namespace Go.Proofs.YtjhocpcpkemcaaaGreat.Ex
open Go.RowKit
open Rw
open Da
open La (Ln LN cN RightN rightN)
open Ac (Hd Pu HL)
open Se (NL eS Sn Rp ret_bool)
theorem laneR_is {B:Bs} {l:Ln} {v:Value} {w:World} {r:Bool} (H:Hid (rightN l=r)) (h:LN B l v w) (hB:B.le w.heap.size) (hs:La.Sm l) :
  Calls Tryz.prog 78 #[v] w fun e w'=>e=.returned (.bool r)∧Below w.heap.size w w':=by
 rw [← H.out];exact La.lright_any B l v w h hB hs
theorem areRight_any (n:Nat) (l:List Ln) (v:Value) (w:World) (h:NsL n l v w) (hn:n≤w.heap.size) (hm:l.length≤1000) (hs:∀ x∈l,La.Sm x) :
  Calls Tryz.prog 58 #[v] w fun e w'=>e=.returned (.bool (l.all rightN))∧Below w.heap.size w w':=by
 obtain ⟨a1,c1,rfl,h1⟩:=id h
 have HA:=lH h1
 have HS:=lH hs
 obtain ⟨N,hN⟩:∃ N,N=l.length:=⟨_,rfl⟩
 obtain ⟨R,hR⟩:∃ R,l.all rightN=R:=⟨_,rfl⟩
 rw [hR]
 rw [← hN] at hm ⊢
 have HN:=lH hN
 have HR:=lH hR
 clear h1 hs h hN hR
 go_enter Tryz.func58,Tryz.ntmps58
 go_wp2
 go_loopw [7] (fun i wr=>∃ k:Nat,k≤N∧i=.int .i64 k∧Below w.heap.size w wr∧(l.take k).all rightN=true) (fun i _=>N - (intOf i).toNat)
 case atStart=>exact ⟨0,Nat.zero_le _,rfl,Below.refl _ _,rfl⟩
 case round =>
  obtain ⟨k,hk,rfl,hb,hall⟩:=hrel
  have HL:=lH hall
  clear hall
  by_cases hlt:k<N
  ·have hlt2:(k:Int)<N:=by omega
   have hkl:k<l.length:=by rw [← HN.out];exact hlt
   rcases HA.out with ⟨e,_⟩ | ⟨b,off,rfl,hat⟩
   ·rw [e] at hkl;cases hkl
   have hat2:=Lies.keep eN 59 hat (Keeps.of_below hb)
   have hbb:=hat2.1
   obtain ⟨j1,w1,x1,j2,w2,x2,j3,w3,x3,hln,r0,r1,r2,r3,r4,r5⟩:=atN hat2 k hkl
   have hsl:=HS.out _ (List.getElem_mem hkl)
   obtain ⟨q,hq⟩:∃ q,rightN l[k]=q:=⟨_,rfl⟩
   have hT:(l.take (k+1)).all rightN=q:=by rw [Da.take_snoc hkl,List.all_append,HL.out,← hq];simp
   obtain ⟨ln,hlnq⟩:∃ ln,l[k]=ln:=⟨_,rfl⟩
   rw [hlnq] at hln r0 r1 r4 hsl hq
   obtain ⟨b0,b1,b2,e0,e1,e2⟩:∃ b0 b1 b2,ln.1=b0∧ln.2.1=b1∧ln.2.2.1.2.2=b2:=⟨_,_,_,rfl,rfl,rfl⟩
   rw [e0] at r0 hln
   rw [e1] at r1 hln
   rw [e2] at r4 hln
   obtain ⟨V,hV⟩:∃ V,V=wr.alloc (.cells #[.int .i64 b0,.int .i64 b1,.slice j1 w1 x1,.slice j2 w2 x2,.int .i64 b2,.slice j3 w3 x3] 59):=⟨_,rfl⟩
   have hbV:Below wr.heap.size wr V:=hV ▸ below1 wr _
   have hrow:row V wr.heap.size=#[.int .i64 b0,.int .i64 b1,.slice j1 w1 x1,.slice j2 w2 x2,.int .i64 b2,.slice j3 w3 x3]:=by rw [hV];exact row_is (heap_alloc_new _ _)
   have HC:=lH (laneR_is (lH hq) (hln.stays hbV) ⟨Nat.le_trans hn (nx hb hbV).size,fun _ h=>h.elim⟩ hsl)
   have HT:=lH hT
   rw [hV] at hrow
   have HV:=lH hV
   have HB:=lH (nx hb hbV)
   clear hV hbV hln hat hat2 hsl hlnq hT e0 e1 e2 hq
   go_wp2_with fail
   rw [← HV.out]
   refine HC.out.mono ?_
   rintro e w2 ⟨rfl,hb2⟩
   have hbf:=nx HB.out hb2
   clear r0 r1 r2 r3 r4 r5 hrow hb2
   cases q
   ·have HF:=lH (show R=false from by
     rw [← HR.out,← List.take_append_drop (k+1) l,List.all_append,HT.out];rfl)
    go_wp2
    go_ret
    exact ⟨ret_bool HF.out.symm,hbf⟩
   ·go_wp2
    go_roundw
    case rel=>exact ⟨k+1,by omega,by go_num,hbf,HT.out⟩
    case measure=>simp [intOf];omega
  ·obtain rfl:k=N:=by omega
   have HF:=lH (show R=true from by rw [← HR.out,← HL.out,HN.out,List.take_length])
   go_wp2
   go_ret
   exact ⟨ret_bool HF.out.symm,hb⟩
theorem areRight_is {n:Nat} {l:List Ln} {v:Value} {w:World} {r:Bool} (H:Hid (l.all rightN=r)) (h:NsL n l v w) (hn:n≤w.heap.size) (hm:l.length≤1000) (hs:∀ x∈l,La.Sm x) :
  Calls Tryz.prog 58 #[v] w fun e w'=>e=.returned (.bool r)∧Below w.heap.size w w':=by
 rw [← H.out];exact areRight_any n l v w h hn hm hs
theorem rightX_any (n:Nat) (x:Xc) (v:Value) (w:World) (h:XV n x v w) (hn:n≤w.heap.size) (hs:SmX x) :
  Calls Tryz.prog 21 #[v] w fun e w'=>e=.returned (.bool (rightX x))∧Below w.heap.size w w':=by
 obtain ⟨_,_,_,_,_,rfl,hd⟩:=h
 obtain ⟨a1,d1,a2,d2,a3,d3,a4,d4,a5,d5,rfl,rfl,rfl,rfl,rfl⟩:=hd.open'
 obtain ⟨n1,q1⟩:∃ q,x.free.length=q:=⟨_,rfl⟩
 obtain ⟨n2,q2⟩:∃ q,x.lanes.length=q:=⟨_,rfl⟩
 obtain ⟨n3,q3⟩:∃ q,x.sess.length=q:=⟨_,rfl⟩
 obtain ⟨n4,q4⟩:∃ q,x.inn.length=q:=⟨_,rfl⟩
 obtain ⟨n5,q5⟩:∃ q,x.out.length=q:=⟨_,rfl⟩
 rw [q1,q2,q3,q4,q5] at hd ⊢
 obtain ⟨b1,e1⟩:∃ b,decide ((n2:Int)≤6)=b:=⟨_,rfl⟩
 obtain ⟨b2,e2⟩:∃ b,x.lanes.all rightN=b:=⟨_,rfl⟩
 obtain ⟨b3,e3⟩:∃ b,Ac.right x.free=b:=⟨_,rfl⟩
 obtain ⟨b4,e4⟩:∃ b,Ac.right x.inn=b:=⟨_,rfl⟩
 obtain ⟨b5,e5⟩:∃ b,Ac.right x.out=b:=⟨_,rfl⟩
 obtain ⟨b6,e6⟩:∃ b,Se.right x.sess=b:=⟨_,rfl⟩
 obtain ⟨R,hR⟩:∃ R,rightX x=R:=⟨_,rfl⟩
 have HR:=lH (show R=(b1&&b2&&b3&&b4&&b5&&b6) from by
  rw [← hR,← e2,← e3,← e4,← e5,← e6,← e1,← q2];unfold rightX
  rw [show decide (x.lanes.length≤6)=decide ((x.lanes.length:Int)≤6) from by rw [Bool.eq_iff_iff];simp;omega])
 rw [hR]
 have H2:=lH e2
 have H3:=lH e3
 have H4:=lH e4
 have H5:=lH e5
 have H6:=lH e6
 have HX:=lH (XB.made hd hn)
 have HS:=lH hs
 obtain ⟨V,hV⟩:∃ V,V=w.alloc (.cells #[.slice a1 n1 d1,.slice a2 n2 d2,.slice a3 n3 d3,.slice a4 n4 d4,.slice a5 n5 d5] 28):=⟨_,rfl⟩
 rw [← hV] at HX
 have hbV:Below w.heap.size w V:=hV ▸ below1 w _
 have HnV:=lH (show ∀ u,Below V.heap.size V u→n≤u.heap.size from fun u hu=>Nat.le_trans hn (nx hbV hu).size)
 have HV:=lH hV
 have HB:=lH hbV
 have HQ2:=lH q2
 clear hs hd hR e2 e3 e4 e5 e6 q1 q2 q3 q4 q5 hbV hV
 go_enter Tryz.func21,Tryz.ntmps21
 cases b1
 ·go_wp2
  go_ret
  exact ⟨ret_bool HR.out.symm,below1 _ _⟩
 go_wp2_with fail
 rw [← HV.out]
 refine (areRight_is H2 HX.out.d.lanes (HnV.out V (Below.refl _ _)) HS.out.lanes HS.out.lane).mono ?_
 rintro e w2 ⟨rfl,hb2⟩
 obtain ⟨c0,c1,c2,c3,c4⟩:=(HX.out.stays hb2).cells
 have hw2:=nx HB.out hb2
 cases b2
 ·clear hb2
  go_wp2
  go_ret
  exact ⟨ret_bool HR.out.symm,hw2⟩
 go_wp2_with fail
 refine (Ac.right_is H3 w2 (HX.out.stays hb2).d.free (by have:=HS.out.free;omega)).mono ?_
 rintro e w3 ⟨rfl,hb3'⟩
 have hb3:=nx hb2 hb3'
 clear c0 c1 c2 c3 c4 hb2 hb3' hw2
 obtain ⟨c0,c1,c2,c3,c4⟩:=(HX.out.stays hb3).cells
 have hw3:=nx HB.out hb3
 cases b3
 ·clear hb3
  go_wp2
  go_ret
  exact ⟨ret_bool HR.out.symm,hw3⟩
 go_wp2_with fail
 refine (Ac.right_is H4 w3 (HX.out.stays hb3).d.inn (by have:=HS.out.inn;omega)).mono ?_
 rintro e w4 ⟨rfl,hb4'⟩
 have hb4:=nx hb3 hb4'
 clear c0 c1 c2 c3 c4 hb3 hb4' hw3
 obtain ⟨c0,c1,c2,c3,c4⟩:=(HX.out.stays hb4).cells
 have hw4:=nx HB.out hb4
 cases b4
 ·clear hb4
  go_wp2
  go_ret
  exact ⟨ret_bool HR.out.symm,hw4⟩
 go_wp2_with fail
 refine (Ac.right_is H5 w4 (HX.out.stays hb4).d.out (by have:=HS.out.out;omega)).mono ?_
 rintro e w5 ⟨rfl,hb5'⟩
 have hb5:=nx hb4 hb5'
 clear c0 c1 c2 c3 c4 hb4 hb5' hw4
 obtain ⟨c0,c1,c2,c3,c4⟩:=(HX.out.stays hb5).cells
 have hw5:=nx HB.out hb5
 cases b5
 ·clear hb5
  go_wp2
  go_ret
  exact ⟨ret_bool HR.out.symm,hw5⟩
 go_wp2_with fail
 refine (Se.right_is H6 (HX.out.stays hb5).d.sess (by have:=HS.out.sess;omega)).mono ?_
 rintro e w6 ⟨rfl,hb6'⟩
 have hw6:=nx HB.out (nx hb5 hb6')
 clear c0 c1 c2 c3 c4 hb5 hb6' hw5
 go_wp2
 go_ret
 exact ⟨ret_bool HR.out.symm,hw6⟩
theorem rightX_is {n:Nat} {x:Xc} {v:Value} {w:World} {r:Bool} (H:Hid (rightX x=r)) (h:XV n x v w) (hn:n≤w.heap.size) (hs:SmX x) :
  Calls Tryz.prog 21 #[v] w fun e w'=>e=.returned (.bool r)∧Below w.heap.size w w':=by
 rw [← H.out];exact rightX_any n x v w h hn hs
end Go.Proofs.YtjhocpcpkemcaaaGreat.Ex
