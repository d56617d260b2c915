/- The document's own of layer 10: Right, Owed. -/
import Derived.Test.YtjhocpcpkemcaaaGreatQkZZ
import Derived.Test.YtjhocpcpkemcaaaGreatQkAR
import Derived.Test.YtjhocpcpkemcaaaGreatQkAV
import Derived.RegionTactic
set_option linter.unusedVariables false
set_option maxRecDepth 16000
set_option maxHeartbeats 32000000
namespace Go.Proofs.YtjhocpcpkemcaaaGreat.La
open Go.RowKit
open Rw
open Da
open Le
open Bk
open Ac (Hd Pu HL pmay pmay_iff tot total giveE giveL takeE takeL)
theorem nwC_size (b q : Int) : (nwC b q).size=6:=by unfold nwC;split<;>rfl
theorem nwC_one (b q : Int) : oneAll (.agg (nwC b q))=true:=by unfold nwC;split<;>exact one6 _ _ _ _ _ _ _ _ _ _ _ _
theorem rRightB_is {B : Bs} {b : Bk} {v : Value} {w : World} {r : Bool} (hr : Hid (rightB b=r)) (h : BL B b v w) (hB : B.le w.heap.size) (h1 : b.1.length≤1000000) (h2 : (flat b.1).length≤1000000) (h3 : b.2.1.length≤1000000) (h4 : (flat b.2.1).length≤1000000) :
  Calls Tryz.prog 109 #[v] w fun e w'=>e=.returned (.bool r)∧Below w.heap.size w w':=by
 rw [← hr.out];exact rRightB_any B b v w h hB h1 h2 h3 h4
theorem rNew10_is {b q : Int} {r : Bool} (h : Hid (pairOk b q=r)) (w : World) : Calls Tryz.prog 40 #[.int .i64 b,.int .i64 q] w fun e w'=>e=.returned (.tuple #[.agg (nwC b q),.int .i64 (if r=true then 0 else 1)])∧Below w.heap.size w w':=by
 have:=rNew10_any b q w
 unfold newE at this
 rwa [h.out] at this
def okOf (b q : Int) (h : Hd) : Bool:=h.2.1==b||h.2.1==q
theorem only_take {b q : Int} {l : List Hd} {k : Nat} (h : k<l.length) : only b q (l.take (k+1))=(only b q (l.take k)&&okOf b q l[k]):=by
 unfold only
 rw [Da.take_snoc h,List.all_append]
 simp [okOf]
theorem only_no {b q : Int} {l : List Hd} {k : Nat} (h : k<l.length) (hk : okOf b q l[k]=false) : only b q l=false:=by
 cases e : only b q l
 ·rfl
 ·unfold only at e
  have:=List.all_eq_true.1 e _ (List.getElem_mem h)
  unfold okOf at hk
  rw [this] at hk;cases hk
theorem rRight10_any (B : Bs) (l : Ln) (v : Value) (w : World) (h : LN B l v w) (hB : B.le w.heap.size) (h1 : l.2.2.1.1.length≤1000000) (h2 : (flat l.2.2.1.1).length≤1000000) (h3 : l.2.2.1.2.1.length≤1000000) (h4 : (flat l.2.2.1.2.1).length≤1000000) (h5 : l.2.2.2.length≤1000000) :
  Calls Tryz.prog 63 #[v] w fun e w'=>e=.returned (.bool (rightN l))∧Below w.heap.size w w':=by
 obtain ⟨lb,lq,⟨bu,se,nn⟩,od⟩:=l
 obtain ⟨a1,n1,c1,a2,n2,c2,a3,n3,c3,rfl,e1,e2,e3,hl1,hl2,hl3⟩:=h.open'
 simp only at e1 e2 e3 hl1 hl2 hl3 h1 h2 h3 h4 h5
 obtain ⟨V,hV⟩ : ∃ V,V=w.alloc (.cells (cN lb lq (.slice a1 n1 c1) (.slice a2 n2 c2) nn (.slice a3 n3 c3)) 59):=⟨_,rfl⟩
 have hbV : Below w.heap.size w V:=hV ▸ below1 w _
 have hzV : V.heap.size=w.heap.size+1:=by rw [hV];simp
 have hx0 : LB B (lb,lq,(bu,se,nn),od) (.slice a1 n1 c1) (.slice a2 n2 c2) (.slice a3 n3 c3) w.heap.size V:=by rw [hV];exact LB.made hl1 hl2 hl3 hB.1
 have HX:=lH hx0
 have HB:=lH (show ∀ u,Below w.heap.size w u→B.le u.heap.size from fun u hu=>hB.mono hu.size)
 have HSm:=lH (show od.length≤maxLen from by unfold maxLen;omega)
 have hn3 : n3≤1000000:=by omega
 have HE3:=lH e3
 obtain ⟨q0,q1,q2,q3,q4,q5⟩:=hx0.cells
 simp only at q0 q1 q2 q3 q4 q5
 have hcz:=nwC_size lb lq
 have h1c:=nwC_one lb lq
 have HV:=lH hV
 clear h hl1 hl2 hl3 hx0 hB h5 e1 e2 e3 hV
 cases hp : pairOk lb lq
 ·have HP:=lH hp
  have HZ : Hid (rightN (lb,lq,(bu,se,nn),od)=false):=lH (by unfold rightN;simp only;rw [hp];rfl)
  clear hp
  go_enter Tryz.func63,Tryz.ntmps63
  go_wp2_with fail
  rw [← HV.out]
  refine (rNew10_is HP V).mono ?_
  rintro e w1 ⟨rfl,hb1⟩
  simp only [Bool.false_eq_true,if_false]
  go_wp2
  go_ret
  exact ⟨ret_bool HZ.out.symm,nx hbV (nx hb1 (below1 _ _))⟩
 have HP:=lH hp
 clear hp
 go_enter Tryz.func63,Tryz.ntmps63
 go_wp2_with fail
 rw [← HV.out]
 refine (rNew10_is HP V).mono ?_
 rintro e w1 ⟨rfl,hb1⟩
 simp only [if_true]
 obtain ⟨M,hM⟩ : ∃ M,M=w1.alloc (.cells (nwC lb lq) 59):=⟨_,rfl⟩
 have hbM : Below V.heap.size V M:=nx hb1 (hM ▸ below1 w1 _)
 have hbwM:=nx hbV hbM
 have HXM:=lH (HX.out.stays hbM)
 have hz1:=hb1.size
 have z1 : w.heap.size<w1.heap.size:=by omega
 clear q0 q1 q2 q3 q4 q5
 obtain ⟨r0,r1,r2,r3,r4,r5⟩:=(HX.out.stays hb1).cells
 simp only at r0 r1 r2 r3 r4 r5
 have HM:=lH hM
 clear hM
 obtain ⟨rb,hrb⟩ : ∃ r,rightB (bu,se,nn)=r:=⟨_,rfl⟩
 have HRb:=lH hrb
 clear hrb
 go_wp2_with fail
 rw [← HM.out]
 refine (rRightB_is HRb HXM.out.bl (HB.out M hbwM) h1 h2 h3 h4).mono ?_
 rintro e w2 ⟨rfl,hb2⟩
 have hbw2:=nx hbwM hb2
 have HX2:=lH (HXM.out.stays hb2)
 clear r0 r1 r2 r3 r4 r5 z1
 obtain ⟨r0,r1,r2,r3,r4,r5⟩:=HX2.out.cells
 simp only at r0 r1 r2 r3 r4 r5
 have z2 : w.heap.size<w2.heap.size:=HX2.out.lt
 cases rb
 ·have HZ : Hid (rightN (lb,lq,(bu,se,nn),od)=false):=lH (by unfold rightN;simp only;rw [HRb.out,Bool.and_false,Bool.false_and,Bool.false_and])
  go_wp2
  go_ret
  exact ⟨ret_bool HZ.out.symm,hbw2⟩
 obtain ⟨ra,hra⟩ : ∃ r,Ac.right od=r:=⟨_,rfl⟩
 have HRa:=lH hra
 clear hra
 go_wp2_with fail
 refine (Ac.rRight_is HRa w2 HX2.out.l3 HSm.out).mono ?_
 rintro e w3 ⟨rfl,hb3⟩
 have hbw3:=nx hbw2 hb3
 have HX3:=lH (HX2.out.stays hb3)
 clear r0 r1 r2 r3 r4 r5 z2
 obtain ⟨r0,r1,r2,r3,r4,r5⟩:=HX3.out.cells
 simp only at r0 r1 r2 r3 r4 r5
 have z3 : w.heap.size<w3.heap.size:=HX3.out.lt
 cases ra
 ·have HZ : Hid (rightN (lb,lq,(bu,se,nn),od)=false):=lH (by unfold rightN;simp only;rw [HRa.out,Bool.and_false,Bool.false_and])
  go_wp2
  go_ret
  exact ⟨ret_bool HZ.out.symm,hbw3⟩
 have HOn : Hid (rightN (lb,lq,(bu,se,nn),od)=only lb lq od):=lH (by unfold rightN;simp only;rw [HP.out,HRb.out,HRa.out];rfl)
 go_wp2
 go_loopw [6,32] (fun _ i wr=>∃ k : Nat,k≤n3∧i=.int .i64 k∧Below w3.heap.size w3 wr∧only lb lq (od.take k)=true) (fun _ i _=>n3 - (intOf i).toNat)
 case atStart=>exact ⟨0,Nat.zero_le _,rfl,Below.refl _ _,by simp [only]⟩
 case round =>
  obtain ⟨k,hk,rfl,hb,ho⟩:=hrel
  have HO:=lH ho
  have hbw:=nx hbw3 hb
  have hxr:=HX3.out.stays hb
  clear ho r0 r1 r2 r3 r4 r5 z3
  obtain ⟨r0,r1,r2,r3,r4,r5⟩:=hxr.cells
  simp only at r0 r1 r2 r3 r4 r5
  have zr : w.heap.size<wr.heap.size:=hxr.lt
  by_cases hlt : k<n3
  ·have hlt2 : (k : Int)<n3:=by omega
   have hko : k<od.length:=by rw [HE3.out];exact hlt
   have hl:=hxr.l3
   simp only at hl
   rw [← HE3.out] at hl
   rcases hl.cases with ⟨e,_⟩ | ⟨_,g,off,cc,e,hat⟩
   ·rw [e] at hko;cases hko
   simp only [Value.slice.injEq] at e
   obtain ⟨rfl,_,rfl⟩:=e
   obtain ⟨s0,s1,s2⟩:=Ac.at3 hat k hko
   have hbb:=hat.1
   have hst:=only_take (b:=lb) (q:=lq) hko
   rw [HO.out,Bool.true_and] at hst
   obtain ⟨⟨x,y,z⟩,hx⟩ : ∃ x,od[k]'hko=x:=⟨_,rfl⟩
   rw [hx] at s0 s1 s2 hst
   simp only at s0 s1 s2
   have HSt:=lH (show only lb lq (od.take (k+1))=(y==lb||y==lq) from hst)
   have hHx:=lH hx
   clear hst hx hat hl hxr
   by_cases d1 : y=lb
   ·have f1 : (y != lb)=false:=by simpa using d1
    have HS1 : Hid (only lb lq (od.take (k+1))=true):=lH (by rw [HSt.out,Bool.or_eq_true];exact .inl (by simpa using d1))
    clear d1
    go_wp2
    go_roundw
    case rel=>exact ⟨k+1,by omega,by go_num,nx hb (below1 _ _),HS1.out⟩
    case measure=>simp [intOf];omega
   ·have f1 : (y != lb)=true:=by simpa using d1
    by_cases d2 : y=lq
    ·have f2 : (y != lq)=false:=by simpa using d2
     have HS1 : Hid (only lb lq (od.take (k+1))=true):=lH (by rw [HSt.out,Bool.or_eq_true];exact .inr (by simpa using d2))
     clear d1 d2
     go_wp2
     go_roundw
     case rel=>exact ⟨k+1,by omega,by go_num,nx hb (below1 _ _),HS1.out⟩
     case measure=>simp [intOf];omega
    ·have f2 : (y != lq)=true:=by simpa using d2
     have HZ : Hid (rightN (lb,lq,(bu,se,nn),od)=false):=lH (by
      rw [HOn.out]
      refine only_no hko ?_
      rw [hHx.out]
      show (y==lb||y==lq)=false
      simp [d1,d2])
     clear d1 d2
     go_wp2
     go_ret
     exact ⟨ret_bool HZ.out.symm,nx hbw (below1 _ _)⟩
  ·obtain rfl : k=n3:=by omega
   have HZ : Hid (rightN (lb,lq,(bu,se,nn),od)=true):=lH (by rw [HOn.out,← HO.out,← HE3.out,List.take_length])
   clear hlt
   go_wp2
   go_ret
   exact ⟨ret_bool HZ.out.symm,hbw⟩
structure Sm (l : Ln) : Prop where
 m1 : l.2.2.1.1.length≤1000
 m2 : (flat l.2.2.1.1).length≤1000
 m3 : l.2.2.1.2.1.length≤1000
 m4 : (flat l.2.2.1.2.1).length≤1000
 m5 : l.2.2.2.length≤1000
theorem rRight10_is {B : Bs} {l : Ln} {v : Value} {w : World} {r : Bool} (hr : Hid (rightN l=r)) (h : LN B l v w) (hB : B.le w.heap.size) (hs : Sm l) :
  Calls Tryz.prog 63 #[v] w fun e w'=>e=.returned (.bool r)∧Below w.heap.size w w':=by
 rw [← hr.out]
 exact rRight10_any B l v w h hB (Nat.le_trans hs.m1 (by decide)) (Nat.le_trans hs.m2 (by decide)) (Nat.le_trans hs.m3 (by decide)) (Nat.le_trans hs.m4 (by decide)) (Nat.le_trans hs.m5 (by decide))
end Go.Proofs.YtjhocpcpkemcaaaGreat.La
