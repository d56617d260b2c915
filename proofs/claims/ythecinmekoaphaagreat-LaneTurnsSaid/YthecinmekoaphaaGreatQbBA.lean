/- The document's own: Cancel. -/
import Derived.Test.YthecinmekoaphaaGreatQbZZ
import Derived.Test.YthecinmekoaphaaGreatQbAV
import Derived.Test.YthecinmekoaphaaGreatQbAL
set_option linter.unusedVariables false
set_option maxRecDepth 16000
set_option maxHeartbeats 32000000
namespace Go.Proofs.YthecinmekoaphaaGreat.Bk
open Go.RowKit
open Rw
open Da
open Le
theorem BL.up {A B : Bs} {b : Bk} {v : Value} {w : World} (hB : A.sub B) (h : BL A b v w) : BL B b v w:=by
 obtain ⟨x,y,e,h1,h2⟩:=h
 exact ⟨x,y,e,Is.up eL 98 hB h1,Is.up eL 98 hB h2⟩
structure Fin (A : Bs) (b : Bk) (x y : Value) (s : Nat) (w W : World) (r : Option Od) : Prop where
 p1 : plain 3 W (s+1)=true
 p2 : plain 5 (W.setRow (s+1) #[x,y,.int .i64 b.2.2]) (s+2)=true
 r1 : row ((W.setRow (s+1) #[x,y,.int .i64 b.2.2]).setRow (s+2) (cO r)) (s+1)=#[x,y,.int .i64 b.2.2]
 r2 : row ((W.setRow (s+1) #[x,y,.int .i64 b.2.2]).setRow (s+2) (cO r)) (s+2)=cO r
 bel : Below s w ((W.setRow (s+1) #[x,y,.int .i64 b.2.2]).setRow (s+2) (cO r))
 bl : BL A b (.agg #[x,y,.int .i64 b.2.2]) ((W.setRow (s+1) #[x,y,.int .i64 b.2.2]).setRow (s+2) (cO r))
def zB : Array Value:=#[.slice none 0 0,.slice none 0 0,.int .i64 0]
theorem CF.fin {A : Bs} {b : Bk} {x y : Value} {s : Nat} {w W : World} (h : CF A b x y s w W) (g1 : W.heap[s+1]?=some (.cells zB 25 (0,0))) (g2 : W.heap[s+2]?=some (.cells (cO none) 70 (0,0))) (hx : A.ex (s+2)) (r : Option Od) : Fin A b x y s w W r:=by
 have g2' : (W.setRow (s+1) #[x,y,.int .i64 b.2.2]).heap[s+2]?=some (.cells (cO none) 70 (0,0)):=(setRow_other W (s+1) (s+2) _ (by omega)).trans g2
 have hc:=(h.otherB (k:=s+1) (by omega) g1 #[x,y,.int .i64 b.2.2]).other (k:=s+2) (by omega) hx (cO r)
 refine ⟨by unfold Rw.plain;rw [g1];rfl,by unfold Rw.plain;rw [g2'];rfl,?_,?_,hc.bel,hc.bl⟩
 ·unfold Rw.row
  rw [setRow_other _ (s+2) (s+1) _ (by omega),setRow_heap W (s+1) _ _ _ _ g1]
 ·unfold Rw.row
  rw [setRow_heap _ (s+2) _ _ _ _ g2']
theorem CF.now {A : Bs} {X : Nat→Prop} {b : Bk} {x y : Value} {s : Nat} {w W : World} (h : CF A b x y s w W) (hX : ∀ b,X b→W.heap.size≤b) : CF (A.but X) b x y s w W :=
 ⟨h.bk,h.lo,Is.now eL 98 h.l1 hX,Is.now eL 98 h.l2 hX,h.bel⟩
structure FinR (x y : Value) (n : Int) (o : Option Od) (s k : Nat) (W : World) : Prop where
 a1 : row W s=#[x,y,.int .i64 n]
 a2 : row W k=cO o
 a3 : row (W.setRow (s+1) #[x,y,.int .i64 n]) k=cO o
 a4 : row (W.setRow (s+1+1) (cO o)) s=#[x,y,.int .i64 n]
 a5 : plain 3 W (s+1)=true
 a6 : plain 5 W (s+1+1)=true
 a7 : plain 3 (W.setRow (s+1+1) (cO o)) (s+1)=true
 a8 : plain 5 (W.setRow (s+1) #[x,y,.int .i64 n]) (s+1+1)=true
 a9 : (W.setRow (s+1+1) (cO o)).setRow (s+1) #[x,y,.int .i64 n]=(W.setRow (s+1) #[x,y,.int .i64 n]).setRow (s+1+1) (cO o)
theorem setRow_comm (w : World) {a b : Nat} (c d : Array Value) (h : a≠b) : (w.setRow a c).setRow b d=(w.setRow b d).setRow a c:=by
 simp only [World.setRow]
 congr 1
 refine Array.ext_getElem? fun i=>?_
 simp only [Array.getElem?_modify]
 by_cases e1 : a=i
 ·subst e1
  simp [h.symm]
 ·by_cases e2 : b=i<;>simp [e1,e2]
theorem CF.finR {A : Bs} {b : Bk} {x y : Value} {s k : Nat} {w W : World} {o : Option Od} (h : CF A b x y s w W) (g1 : W.heap[s+1]?=some (.cells zB 25 (0,0))) (g2 : W.heap[s+2]?=some (.cells (cO none) 70 (0,0))) (hk : W.heap[k]?=some (.cells (cO o) 70 (0,0))) (hks : s+2<k) : FinR x y b.2.2 o s k W:=by
 refine ⟨h.row,by unfold Rw.row;rw [hk],?_,?_,by unfold Rw.plain;rw [g1];rfl,by unfold Rw.plain;rw [g2];rfl,?_,?_,setRow_comm _ _ _ (by omega)⟩
 ·unfold Rw.row;rw [setRow_other W (s+1) k _ (by omega),hk]
 ·unfold Rw.row;rw [setRow_other W (s+1+1) s _ (by omega),h.bk]
 ·unfold Rw.plain;rw [setRow_other W (s+1+1) (s+1) _ (by omega),g1];rfl
 ·unfold Rw.plain;rw [setRow_other W (s+1) (s+1+1) _ (by omega),g2];rfl
theorem row_alloc (W : World) (o : Obj) {q : Nat} (h : q<W.heap.size) : row (W.alloc o) q=row W q:=by unfold Rw.row;rw [(below1 W o).block q h]
def PostC (B : Bs) (c : Bk × Option Od × Int) (w : World) (e : Ending) (w' : World) : Prop:=∃ bv,e=.returned (.tuple #[bv,.agg (cO c.2.1),.int .i64 c.2.2])∧Below w.heap.size w w'∧BL B c.1 bv w'
theorem rCancel_any (B : Bs) (b : Bk) (v : Value) (ow id : Int) (w : World) (h : BL B b v w) (hB : B.le w.heap.size) (h1 : b.1.length≤1000000) (h2 : (flat b.1).length≤1000000) (h3 : b.2.1.length≤1000000) (h4 : (flat b.2.1).length≤1000000) :
  Calls Tryz.prog 42 #[v,.int .i64 ow,.int .i64 id] w (PostC B (cancel b ow id) w):=by
 obtain ⟨x,y,rfl,hx,hy⟩:=h
 obtain ⟨C,hC⟩ : ∃ C,cancel b ow id=C:=⟨_,rfl⟩
 rw [hC]
 obtain ⟨s,hs⟩ : ∃ s,w.heap.size=s:=⟨_,rfl⟩
 obtain ⟨V,hV⟩ : ∃ V,V=((w.alloc (.cells #[x,y,.int .i64 b.2.2] 25)).alloc (.cells #[.slice none 0 0,.slice none 0 0,.int .i64 0] 25)).alloc (.cells #[.int .i64 0,.int .i64 0,.int .i64 0,.int .i64 0,.int .i64 0] 70):=⟨_,rfl⟩
 have hbV : Below w.heap.size w V:=hV ▸ below3 w _ _ _
 have hzV : V.heap.size=s+3:=by rw [hV,← hs];simp
 obtain ⟨A,hA⟩ : ∃ A,A=B.but (fun b=>b=s+2):=⟨_,rfl⟩
 have hAB : A.sub B:=by rw [hA];exact Bs.sub_but _ _
 have hAx : A.ex (s+2):=by rw [hA];exact .inr rfl
 have hAl : A.le (s+3):=by rw [hA];exact Bs.but_le (hB.mono (by omega)) (fun b hb=>by omega)
 have hAlo : A.lo≤s:=by have:=hB.1;rw [hA,← hs];exact this
 have hxV : LL A b.1 x V:=by rw [hA];exact Is.stays eL 98 (Is.now eL 98 hx (fun b hb=>by omega)) hbV
 have hyV : LL A b.2.1 y V:=by rw [hA];exact Is.stays eL 98 (Is.now eL 98 hy (fun b hb=>by omega)) hbV
 have k0 : V.heap[s]?=some (.cells #[x,y,.int .i64 b.2.2] 25 (0,0)):=by
  rw [hV,← hs];exact ((below2 _ _ _).block _ (by simp)).trans (heap_alloc_new w _)
 have k1 : V.heap[s+1]?=some (.cells zB 25 (0,0)):=by
  have:=heap_alloc_new (w.alloc (.cells #[x,y,.int .i64 b.2.2] 25)) (.cells #[.slice none 0 0,.slice none 0 0,.int .i64 0] 25)
  rw [World.size_alloc,hs] at this
  rw [hV];exact ((below1 _ _).block _ (by simp;omega)).trans this
 have k2 : V.heap[s+2]?=some (.cells (cO none) 70 (0,0)):=by
  have:=heap_alloc_new ((w.alloc (.cells #[x,y,.int .i64 b.2.2] 25)).alloc (.cells #[.slice none 0 0,.slice none 0 0,.int .i64 0] 25)) (.cells #[.int .i64 0,.int .i64 0,.int .i64 0,.int .i64 0,.int .i64 0] 70)
  rw [World.size_alloc,World.size_alloc,hs] at this
  rw [hV];exact this
 obtain ⟨a1,c1,rfl⟩:=hx.len
 obtain ⟨a2,c2,rfl⟩:=hy.len
 have HV:=lH hV
 have HXV:=lH hxV
 have HYV:=lH hyV
 have HK0:=lH k0
 have HK1:=lH k1
 have HK2:=lH k2
 have HC:=lH hC
 have HS:=lH hs
 have HA:=lH hA
 rw [hs] at hbV
 clear hV hxV hyV k0 k1 k2 hC hA hx hy
 go_enter Tryz.func42,Tryz.ntmps42
 go_wp2_with fail
 rw [← HV.out]
 refine (rOwnB_any A b _ V ⟨_,_,rfl,HXV.out,HYV.out⟩ (by rw [hzV];exact hAl) h1 h2 h3 h4).mono ?_
 rintro e w1 ⟨x',y',hs1,hs2,rfl,hb1,hm⟩
 obtain ⟨x1,y1,e1,hx1,hy1⟩:=hm.bl
 simp only [Value.agg.injEq,Array.mk.injEq,List.cons.injEq,and_true] at e1
 obtain ⟨rfl,rfl⟩:=e1
 obtain ⟨a3,c3,rfl⟩:=hx1.len
 obtain ⟨a4,c4,rfl⟩:=hy1.len
 have hz1:=hb1.size
 have g0:=(hb1.block s (by omega)).trans HK0.out
 have g1:=(hb1.block (s+1) (by omega)).trans HK1.out
 have g2:=(hb1.block (s+1+1) (by omega)).trans HK2.out
 have hcf : CF A b (.slice a3 b.1.length c3) (.slice a4 b.2.1.length c4) s w (w1.setRow s #[.slice a3 b.1.length c3,.slice a4 b.2.1.length c4,.int .i64 b.2.2]):=CF.put g0 hAlo hx1 hy1 (hbV.trans (hb1.mono (by omega)))
 have g1U : (w1.setRow s #[.slice a3 b.1.length c3,.slice a4 b.2.1.length c4,.int .i64 b.2.2]).heap[s+1]?=some (.cells zB 25 (0,0)):=(setRow_other w1 s (s+1) _ (by omega)).trans g1
 have g2U : (w1.setRow s #[.slice a3 b.1.length c3,.slice a4 b.2.1.length c4,.int .i64 b.2.2]).heap[s+1+1]?=some (.cells (cO none) 70 (0,0)):=(setRow_other w1 s (s+1+1) _ (by omega)).trans g2
 have p0 : plain 3 w1 s=true:=by simp [Rw.plain,g0]
 obtain ⟨U,hU⟩ : ∃ U,U=w1.setRow s #[.slice a3 b.1.length c3,.slice a4 b.2.1.length c4,.int .i64 b.2.2]:=⟨_,rfl⟩
 have hrU : row (w1.setRow s #[.slice a3 b.1.length c3,.slice a4 b.2.1.length c4,.int .i64 b.2.2]) s=#[.slice a3 b.1.length c3,.slice a4 b.2.1.length c4,.int .i64 b.2.2]:=hcf.row
 rw [← hU] at hcf g1U g2U
 have hzU : U.heap.size=w1.heap.size:=by rw [hU,setRow_size]
 have HCF:=lH hcf
 have HG1:=lH g1U
 have HG2:=lH g2U
 have HU:=lH hU
 clear hm hx1 hy1 g0 g1 g2 hcf g1U g2U hU HK0 HK1 HK2 HXV HYV
 go_wp2_with fail
 rw [← HU.out]
 refine (rRightB_any A b _ U HCF.out.bl (hAl.mono (by omega)) h1 h2 h3 h4).mono ?_
 rintro e w2 ⟨rfl,hb2⟩
 have hz2:=hb2.size
 have hcf2:=HCF.out.stays hb2
 have g1:=(hb2.block _ (by omega)).trans HG1.out
 have g2:=(hb2.block _ (by omega)).trans HG2.out
 have r0:=hcf2.row
 obtain ⟨q0,q1,q2,f0,f1,f2⟩:=hcf2.cells
 have hlt2 : s<w2.heap.size:=hcf2.lt
 clear hrU p0
 have HCF2:=lH hcf2
 have HG12:=lH g1
 have HG22:=lH g2
 clear hcf2 g1 g2
 cases hright : rightB b
 ·have HC2 : Hid (C=(b,none,1)):=lH (by rw [← HC.out];unfold cancel;rw [hright];rfl)
  have hfin:=HCF2.out.fin HG12.out HG22.out hAx none
  obtain ⟨p1,p2,z1,z2,zb,zl⟩:=hfin
  have HZ:=lH (show _∧_∧_∧_ from ⟨z1,z2,zb,zl⟩)
  have hl2 : s+1<w2.heap.size:=by omega
  have hl3 : s+1+1<w2.heap.size:=by omega
  clear z1 z2 zb zl
  go_wp2
  refine bodyPost_ret (v:=.tuple #[.agg #[.slice a3 b.1.length c3,.slice a4 b.2.1.length c4,.int .i64 b.2.2],.agg (cO none),.int .i64 1]) (ret_BOE Tryz.results42 _ _ rfl ?c1 (cO_size none) ?c2) rfl ?c3
  case c1=>simp only [go_sem];exact HZ.out.1
  case c2=>simp only [go_sem];exact HZ.out.2.1
  case c3=>rw [HC2.out];exact ⟨_,rfl,by rw [HS.out];exact HZ.out.2.2.1,HZ.out.2.2.2.up hAB⟩
 ·have HRt:=lH (rightB_iff.1 hright)
  clear hright
  obtain ⟨r1,hr1⟩ : ∃ r,fnd (flat b.1) id=r:=⟨_,rfl⟩
  have HR1:=lH hr1
  have hcs1:=cO_size r1
  have h1c1 : oneAll (.agg (cO r1))=true:=by cases r1<;>exact one5 _ _ _ _ _
  clear hr1
  go_wp2_with fail
  refine (rFind_any A b.1 _ id w2 HCF2.out.l1 h1 h2).mono ?_
  rintro e w3 ⟨rfl,hb3⟩
  rw [HR1.out,fV_is]
  have hz3:=hb3.size
  have hcf3:=HCF2.out.stays hb3
  have g1:=(hb3.block _ (by omega)).trans HG12.out
  have g2:=(hb3.block _ (by omega)).trans HG22.out
  clear r0 q0 q1 q2 f0 f1 f2 hlt2
  have HCF3:=lH hcf3
  have HG13:=lH g1
  have HG23:=lH g2
  have hlt3 : s<w3.heap.size:=hcf3.lt
  obtain ⟨X,hX⟩ : ∃ X,X=w3.alloc (.cells (cO r1) 70):=⟨_,rfl⟩
  have hbX : Below w3.heap.size w3 X:=hX ▸ below1 w3 _
  have hzX : X.heap.size=w3.heap.size+1:=by rw [hX];simp
  have hkX : X.heap[w3.heap.size]?=some (.cells (cO r1) 70 (0,0)):=by rw [hX];exact heap_alloc_new w3 _
  have HX:=lH hX
  have HKX:=lH hkX
  have HX1:=lH (hcf3.stays hbX)
  have HX2:=lH ((hbX.block _ (by omega)).trans g1)
  have HX3:=lH ((hbX.block _ (by omega)).trans g2)
  clear hX hkX hcf3 g1 g2
  have hsk : s+2<w3.heap.size:=by omega
  cases hd1 : r1.isSome
  ·obtain ⟨q0,q1,q2,f0,f1,f2⟩:=HCF3.out.cells
   have hn1 : r1=none:=Option.not_isSome_iff_eq_none.1 (by rw [hd1];decide)
   have HN1:=lH hn1
   clear hn1 hd1
   obtain ⟨r2,hr2⟩ : ∃ r,fnd (flat b.2.1) id=r:=⟨_,rfl⟩
   have HR2:=lH hr2
   have hcs2:=cO_size r2
   have h1c2 : oneAll (.agg (cO r2))=true:=by cases r2<;>exact one5 _ _ _ _ _
   clear hr2
   go_wp2_with fail
   rw [← HX.out]
   refine (rFind_any A b.2.1 _ id X HX1.out.l2 h3 h4).mono ?_
   rintro e w4 ⟨rfl,hb4⟩
   rw [HR2.out,fV_is]
   have hz4:=hb4.size
   clear q0 q1 q2 f0 f1 f2
   obtain ⟨k,hk⟩ : ∃ k,w3.heap.size=k:=⟨_,rfl⟩
   rw [hk]
   obtain ⟨A',hA'⟩ : ∃ A',A'=A.but (fun b=>b=k):=⟨_,rfl⟩
   have hAB' : A'.sub B:=by
    rw [hA',HA.out]
    exact ⟨Nat.le_refl _,fun b hb=>.inl (.inl (.inl hb))⟩
   have hAx' : A'.ex (s+2):=by rw [hA'];exact .inl hAx
   have hkx : A'.ex k:=by rw [hA'];exact .inr rfl
   have hAl' : A'.le (k+1):=by rw [hA'];exact Bs.but_le (hAl.mono (by omega)) (fun b hb=>by omega)
   have hcf4 : CF A' b (.slice a3 b.1.length c3) (.slice a4 b.2.1.length c4) s w w4:=by
    rw [hA']
    exact ((HCF3.out.now (fun b hb=>by omega)).stays (HX.out ▸ below1 w3 _)).stays hb4
   have g1:=(hb4.block _ (by omega)).trans HX2.out
   have g2:=(hb4.block _ (by omega)).trans HX3.out
   have gk:=(hb4.block _ (by omega)).trans HKX.out
   rw [hk] at gk
   have hcf5:=hcf4.other (k:=k) (by omega) hkx (cO r2)
   have g1':=(setRow_other w4 k (s+1) (cO r2) (by omega)).trans g1
   have g2':=(setRow_other w4 k (s+1+1) (cO r2) (by omega)).trans g2
   have gk' : (w4.setRow k (cO r2)).heap[k]?=some (.cells (cO r2) 70 (0,0)):=setRow_heap w4 k _ _ _ _ gk
   have pk : plain 5 w4 k=true:=by unfold Rw.plain;rw [gk];show ((cO r1).size==5&&_)=true;rw [cO_size];rfl
   obtain ⟨W,hW⟩ : ∃ W,W=w4.setRow k (cO r2):=⟨_,rfl⟩
   have hzW : W.heap.size=w4.heap.size:=by rw [hW,setRow_size]
   rw [← hW] at hcf5 g1' g2' gk'
   have r0:=hcf5.row
   have HW:=lH hW
   have HW1:=lH hcf5
   have HW2:=lH g1'
   have HW3:=lH g2'
   have HWK:=lH gk'
   have hkw : k<w4.heap.size:=by omega
   cases hd2 : r2.isSome
   ·have hn2 : r2=none:=Option.not_isSome_iff_eq_none.1 (by rw [hd2];decide)
    have HC3 : Hid (C=(b,none,8)):=lH (by rw [← HC.out];unfold cancel fndB;rw [rightB_iff.2 HRt.out,HR1.out,HN1.out,HR2.out,hn2];rfl)
    obtain ⟨p1,p2,z1,z2,zb,zl⟩:=hcf5.fin g1' g2' hAx' none
    have HZ:=lH (show _∧_∧_∧_ from ⟨z1,z2,zb,zl⟩)
    have hl2 : s+1<W.heap.size:=by omega
    have hl3 : s+1+1<W.heap.size:=by omega
    rw [hW] at r0 p1 p2
    clear z1 z2 zb zl hn2 hcf4 hcf5 g1 g2 gk g1' g2' gk' hW
    go_wp2
    rw [← HW.out]
    refine bodyPost_ret (v:=.tuple #[.agg #[.slice a3 b.1.length c3,.slice a4 b.2.1.length c4,.int .i64 b.2.2],.agg (cO none),.int .i64 8]) (ret_BOE Tryz.results42 _ _ rfl ?c1 (cO_size none) ?c2) rfl ?c3
    case c1=>first | exact HZ.out.1 | (simp only [go_sem];exact HZ.out.1)
    case c2=>first | exact HZ.out.2.1 | (simp only [go_sem];exact HZ.out.2.1)
    case c3=>rw [HC3.out];exact ⟨_,rfl,by rw [HS.out];exact HZ.out.2.2.1,HZ.out.2.2.2.up hAB'⟩
   ·obtain ⟨⟨o1,o2,o3,o4,o5⟩,ho⟩:=Option.isSome_iff_exists.1 hd2
    have hfs:=fnd_some (HR2.out.trans ho)
    have hfi : o1=id:=hfs.2
    have hsd : o3=2:=by
     have:=mem_may HRt.out.sells hfs.1
     rw [omay_iff] at this
     exact this.2.2.2.2.1
    have hfb : fndB b id=some (o1,o2,o3,o4,o5):=by unfold fndB;rw [HR1.out,HN1.out,HR2.out,ho]
    have e1 : (cO r2)[1]?=some (.int .i64 o2):=by rw [ho];rfl
    have e2 : (cO r2)[2]?=some (.int .i64 o3):=by rw [ho];rfl
    have m1 : (w4.setRow k (cO r2)).cell? ⟨k,1,none⟩=some (.int .i64 o2):=by rw [← hW];simp [World.cell?,gk',e1]
    have m2 : (w4.setRow k (cO r2)).cell? ⟨k,2,none⟩=some (.int .i64 o3):=by rw [← hW];simp [World.cell?,gk',e2]
    have HRo:=lH ho
    have hC3 : C=if o2=ow then (remB b (o1,o2,o3,o4,o5),r2,0) else (b,none,9):=by
     rw [← HC.out];unfold cancel;rw [rightB_iff.2 HRt.out,hfb,HRo.out];rfl
    clear hd2 ho hfs
    have hsk2 : s+2<k:=by omega
    by_cases how : o2=ow
    ·have hd2 : (o2==ow)=true:=by simpa using how
     rw [if_pos how] at hC3
     have hd3 : (o3==1)=false:=by rw [hsd];rfl
     have HC3 : Hid (C=((b.1,rem b.2.1 id,b.2.2),r2,0)):=lH (by rw [hC3];unfold remB;rw [if_neg (by show ¬ o3=1;rw [hsd];decide),hfi])
     obtain ⟨q0,q1,q2,f0,f1,f2⟩:=hcf5.cells
     rw [hW] at q0 q1 q2 f0 f1 f2 r0
     clear hsd how hC3 hfb hcf4 hcf5 g1 g2 gk g1' g2' gk' hW
     go_wp2_with fail
     rw [← HW.out]
     refine (rRemove_any A' b.2.1 _ id W HW1.out.l2 (hAl'.mono (by omega)) h3 h4).mono ?_
     rintro e w5 ⟨t,rfl,hb5,hlt4⟩
     obtain ⟨a5,c5,rfl⟩:=hlt4.len
     have hcf4:=HW1.out.stays hb5
     have g1:=(hb5.block _ (by omega)).trans HW2.out
     have g2:=(hb5.block _ (by omega)).trans HW3.out
     have gk:=(hb5.block _ (by omega)).trans HWK.out
     have hz5:=hb5.size
     clear q0 q1 q2 f0 f1 f2 m1 m2 r0 pk
     obtain ⟨q0,q1,q2,f0,f1,f2⟩:=hcf4.cells
     have hcf5 : CF A' (b.1,rem b.2.1 id,b.2.2) (.slice a3 b.1.length c3) (.slice a5 (rem b.2.1 id).length c5) s w (w5.setCell ⟨s,1,none⟩ (.slice a5 (rem b.2.1 id).length c5)):=hcf4.set rfl hcf4.l1 hlt4
     obtain ⟨F,hF⟩ : ∃ F,F=w5.setCell ⟨s,1,none⟩ (.slice a5 (rem b.2.1 id).length c5):=⟨_,rfl⟩
     have hzF : F.heap.size=w5.heap.size:=by rw [hF];simp
     have hne : ∀ q,q≠s→F.heap[q]?=w5.heap[q]?:=fun q hq=>by rw [hF];exact Below.heap_setCell w5 ⟨s,1,none⟩ _ q hq
     rw [← hF] at hcf5
     have g1':=(hne (s+1) (by omega)).trans g1
     have g2':=(hne (s+1+1) (by omega)).trans g2
     have gk':=(hne _ (by omega)).trans gk
     obtain ⟨b1,b2,b3,b4,b5,b6,b7,b8,b9⟩:=hcf5.finR g1' g2' gk' hsk2
     have hfin:=hcf5.fin g1' g2' hAx' r2
     obtain ⟨p1,p2,z1,z2,zb,zl⟩:=hfin
     have HZ:=lH (show _∧_∧_∧_ from ⟨z1,z2,zb.drew,zl.stays (Below.refl _ _).drew⟩)
     have HF:=lH hF
     clear z1 z2 zb zl p1 p2 hcf4 hcf5 g1 g2 gk g1' g2' gk' hF hne
     go_wp2
     rw [← HF.out]
     go_region
     go_wp2
     refine bodyPost_ret (v:=.tuple #[.agg #[.slice a3 b.1.length c3,.slice a5 (rem b.2.1 id).length c5,.int .i64 b.2.2],.agg (cO r2),.int .i64 0]) (ret_BOE Tryz.results42 _ _ rfl ?c1 (cO_size r2) ?c2) rfl ?c3
     case c1=>first | exact HZ.out.1 | (simp only [go_sem];exact HZ.out.1)
     case c2=>first | exact HZ.out.2.1 | (simp only [go_sem];exact HZ.out.2.1)
     case c3=>rw [HC3.out];exact ⟨_,rfl,by rw [HS.out];exact HZ.out.2.2.1,HZ.out.2.2.2.up hAB'⟩
    ·have hd2 : (o2==ow)=false:=by simpa using how
     rw [if_neg how] at hC3
     have HC3:=lH hC3
     obtain ⟨p1,p2,z1,z2,zb,zl⟩:=hcf5.fin g1' g2' hAx' none
     have HZ:=lH (show _∧_∧_∧_ from ⟨z1,z2,zb,zl⟩)
     have hl2 : s+1<W.heap.size:=by omega
     have hl3 : s+1+1<W.heap.size:=by omega
     rw [hW] at r0 p1 p2
     clear z1 z2 zb zl hsd how hC3 hfb hcf4 hcf5 g1 g2 gk g1' g2' gk' hW
     go_wp2
     rw [← HW.out]
     refine bodyPost_ret (v:=.tuple #[.agg #[.slice a3 b.1.length c3,.slice a4 b.2.1.length c4,.int .i64 b.2.2],.agg (cO none),.int .i64 9]) (ret_BOE Tryz.results42 _ _ rfl ?c1 (cO_size none) ?c2) rfl ?c3
     case c1=>first | exact HZ.out.1 | (simp only [go_sem];exact HZ.out.1)
     case c2=>first | exact HZ.out.2.1 | (simp only [go_sem];exact HZ.out.2.1)
     case c3=>rw [HC3.out];exact ⟨_,rfl,by rw [HS.out];exact HZ.out.2.2.1,HZ.out.2.2.2.up hAB'⟩
  ·obtain ⟨⟨o1,o2,o3,o4,o5⟩,ho⟩:=Option.isSome_iff_exists.1 hd1
   have hfs:=fnd_some (HR1.out.trans ho)
   have hfi : o1=id:=hfs.2
   have hsd : o3=1:=by
    have:=mem_may HRt.out.buys hfs.1
    rw [omay_iff] at this
    exact this.2.2.2.2.1
   have hfb : fndB b id=some (o1,o2,o3,o4,o5):=by unfold fndB;rw [HR1.out,ho]
   have e1 : (cO r1)[1]?=some (.int .i64 o2):=by rw [ho];rfl
   have e2 : (cO r1)[2]?=some (.int .i64 o3):=by rw [ho];rfl
   have e1' : ∀ h,(cO r1)[1]'h=.int .i64 o2:=by rw [ho];exact fun _=>rfl
   have e2' : ∀ h,(cO r1)[2]'h=.int .i64 o3:=by rw [ho];exact fun _=>rfl
   have HRo:=lH ho
   clear hd1 ho hfs
   have hC3 : C=if o2=ow then (remB b (o1,o2,o3,o4,o5),r1,0) else (b,none,9):=by
    rw [← HC.out];unfold cancel;rw [rightB_iff.2 HRt.out,hfb,HRo.out];rfl
   by_cases how : o2=ow
   ·have hd2 : (o2==ow)=true:=by simpa using how
    rw [if_pos how] at hC3
    have hd3 : (o3==1)=true:=by simpa using hsd
    have HC3 : Hid (C=((rem b.1 id,b.2.1,b.2.2),r1,0)):=lH (by rw [hC3];unfold remB;rw [if_pos hsd,hfi])
    clear hsd how hC3 hfb
    obtain ⟨q0,q1,q2,f0,f1,f2⟩:=HCF3.out.cells
    go_wp2_with fail
    rw [← HX.out]
    refine (rRemove_any A b.1 _ id X HX1.out.l1 (hAl.mono (by omega)) h1 h2).mono ?_
    rintro e w5 ⟨t,rfl,hb5,hlt4⟩
    obtain ⟨a5,c5,rfl⟩:=hlt4.len
    have hcf4:=HX1.out.stays hb5
    have g1:=(hb5.block _ (by omega)).trans HX2.out
    have g2:=(hb5.block _ (by omega)).trans HX3.out
    have gk:=(hb5.block _ (by omega)).trans HKX.out
    have hz5:=hb5.size
    clear q0 q1 q2 f0 f1 f2
    obtain ⟨q0,q1,q2,f0,f1,f2⟩:=hcf4.cells
    have hcf5 : CF A (rem b.1 id,b.2.1,b.2.2) (.slice a5 (rem b.1 id).length c5) (.slice a4 b.2.1.length c4) s w (w5.setCell ⟨s,0,none⟩ (.slice a5 (rem b.1 id).length c5)):=hcf4.set rfl hlt4 hcf4.l2
    obtain ⟨F,hF⟩ : ∃ F,F=w5.setCell ⟨s,0,none⟩ (.slice a5 (rem b.1 id).length c5):=⟨_,rfl⟩
    have hzF : F.heap.size=w5.heap.size:=by rw [hF];simp
    have hne : ∀ q,q≠s→F.heap[q]?=w5.heap[q]?:=fun q hq=>by rw [hF];exact Below.heap_setCell w5 ⟨s,0,none⟩ _ q hq
    rw [← hF] at hcf5
    have g1':=(hne (s+1) (by omega)).trans g1
    have g2':=(hne (s+1+1) (by omega)).trans g2
    have gk':=(hne _ (by omega)).trans gk
    obtain ⟨b1,b2,b3,b4,b5,b6,b7,b8,b9⟩:=hcf5.finR g1' g2' gk' hsk
    have hfin:=hcf5.fin g1' g2' hAx r1
    obtain ⟨p1,p2,z1,z2,zb,zl⟩:=hfin
    have HZ:=lH (show _∧_∧_∧_ from ⟨z1,z2,zb.drew,zl.stays (Below.refl _ _).drew⟩)
    have HF:=lH hF
    clear z1 z2 zb zl p1 p2 hcf4 hcf5 g1 g2 gk g1' g2' gk' hF hne
    go_wp2
    rw [← HF.out]
    go_region
    go_wp2
    refine bodyPost_ret (v:=.tuple #[.agg #[.slice a5 (rem b.1 id).length c5,.slice a4 b.2.1.length c4,.int .i64 b.2.2],.agg (cO r1),.int .i64 0]) (ret_BOE Tryz.results42 _ _ rfl ?c1 (cO_size r1) ?c2) rfl ?c3
    case c1=>simp only [go_sem];exact HZ.out.1
    case c2=>simp only [go_sem];exact HZ.out.2.1
    case c3=>rw [HC3.out];exact ⟨_,rfl,by rw [HS.out];exact HZ.out.2.2.1,HZ.out.2.2.2.up hAB⟩
   ·have hd2 : (o2==ow)=false:=by simpa using how
    rw [if_neg how] at hC3
    have HC3:=lH hC3
    obtain ⟨p1,p2,z1,z2,zb,zl⟩:=HCF3.out.fin HG13.out HG23.out hAx none
    have hz9 : ((w3.setRow (s+1) #[.slice a3 b.1.length c3,.slice a4 b.2.1.length c4,.int .i64 b.2.2]).setRow (s+1+1) (cO none)).heap.size=w3.heap.size:=by rw [setRow_size,setRow_size]
    have HZ:=lH (show _∧_∧_∧_ from ⟨(row_alloc _ (.cells (cO r1) 70) (by rw [hz9];omega)).trans z1,(row_alloc _ (.cells (cO r1) 70) (by rw [hz9];omega)).trans z2,zb.trans ((below1 _ (.cells (cO r1) 70)).mono (by rw [hz9];omega)),zl.stays (below1 _ (.cells (cO r1) 70))⟩)
    have r0:=HCF3.out.row
    have hl2 : s+1<w3.heap.size:=by omega
    have hl3 : s+1+1<w3.heap.size:=by omega
    clear z1 z2 zb zl hC3 hfb how
    go_wp2
    refine bodyPost_ret (v:=.tuple #[.agg #[.slice a3 b.1.length c3,.slice a4 b.2.1.length c4,.int .i64 b.2.2],.agg (cO none),.int .i64 9]) (ret_BOE Tryz.results42 _ _ rfl ?c1 (cO_size none) ?c2) rfl ?c3
    case c1=>first | exact HZ.out.1 | (simp only [go_sem];exact HZ.out.1)
    case c2=>first | exact HZ.out.2.1 | (simp only [go_sem];exact HZ.out.2.1)
    case c3=>rw [HC3.out];exact ⟨_,rfl,by rw [HS.out];exact HZ.out.2.2.1,HZ.out.2.2.2.up hAB⟩
end Go.Proofs.YthecinmekoaphaaGreat.Bk
