/- The document's own of layer 10: Cancel. -/
import Derived.Test.YtjhocpcpkemcaaaGreatQeZZ
import Derived.Test.YtjhocpcpkemcaaaGreatQeBI
import Derived.Test.YtjhocpcpkemcaaaGreatQeBH
import Derived.Test.YtjhocpcpkemcaaaGreatQeBB
import Derived.Test.YtjhocpcpkemcaaaGreatQeBG
import Derived.Test.YtjhocpcpkemcaaaGreatQeBJ
import Derived.Test.YtjhocpcpkemcaaaGreatQeBK
set_option linter.unusedVariables false
set_option maxRecDepth 16000
set_option maxHeartbeats 32000000
namespace Go.Proofs.YtjhocpcpkemcaaaGreat.La
open Go.RowKit
open Rw
open Da
open Le
open Bk
open Ac (Hd Pu HL pmay pmay_iff tot total giveE giveL takeE takeL)
def PostCN (B:Bs) (c:Ln × List Hd × Int × Int) (w:World) (e:Ending) (w':World):Prop :=
 ∃ v fv,e=.returned (.tuple #[v,fv,.int .i64 c.2.2.1,.int .i64 c.2.2.2])∧Below w.heap.size w w'∧LN B c.1 v w'∧HL B.lo c.2.1 fv w'
def CaR (B:Bs) (b:Bk) (q:Option Od) (er:Int) (w:World) (e:Ending) (w':World):Prop :=
 ∃ a1 n1 c1 a2 n2 c2 n,e=.returned (.tuple #[.agg #[.slice a1 n1 c1,.slice a2 n2 c2,.int .i64 n],.agg (cO q),.int .i64 er])∧b.2.2=n∧Below w.heap.size w w'∧LL B b.1 (.slice a1 n1 c1) w'∧LL B b.2.1 (.slice a2 n2 c2) w'
theorem cancelN_ways {l:Ln} {fr:List Hd} {ow id:Int} (h1:rightN l=true) (h2:Ac.right fr=true) :
  ∃ C,cancel l.2.2.1 ow id=C∧((C.2.2≠0∧cancelN l fr ow id=(l,fr,0,C.2.2))∨∃ o,C.2.2=0∧C.2.1=some o∧okO o ∧
   cancelN l fr ow id=if giveE fr (ow,ndA l.1 l.2.1 o.2.2.1) (ndN o.2.2.1 o.2.2.2.1 o.2.2.2.2)=0 then ((l.1,l.2.1,C.1,l.2.2.2),giveL fr (ow,ndA l.1 l.2.1 o.2.2.1) (ndN o.2.2.1 o.2.2.2.1 o.2.2.2.2),ndN o.2.2.1 o.2.2.2.1 o.2.2.2.2,0) else (l,fr,0,giveE fr (ow,ndA l.1 l.2.1 o.2.2.1) (ndN o.2.2.1 o.2.2.2.1 o.2.2.2.2))):=by
 have hr:=rightN_iff.1 h1
 refine ⟨_,rfl,?_⟩
 unfold cancelN
 rw [h1,h2,if_pos (by rfl)]
 rcases cancel_cases (ow:=ow) (id:=id) hr.book with ⟨_,h2⟩ | ⟨o,_,_,h2⟩ | ⟨o,k1,k2,k3,k4,_⟩
 ·rw [h2];exact .inl ⟨show (8:Int)≠0 by decide,rfl⟩
 ·rw [h2];exact .inl ⟨show (9:Int)≠0 by decide,rfl⟩
 ·rw [k4]
  exact .inr ⟨o,rfl,rfl,okO_of hr.book o (fndB_mem k1).1,by simp only [if_true]⟩
end Go.Proofs.YtjhocpcpkemcaaaGreat.La
namespace Go.Proofs.YtjhocpcpkemcaaaGreat.Bk
open Go.RowKit
open Rw
open Da
open Le
theorem fin2 {A:Bs} {b:Bk} {x y:Value} {s:Nat} {w W:World} (lo:A.lo≤s) (hb:Below s w W) (h1:LL A b.1 x W) (h2:LL A b.2.1 y W) (g1:W.heap[s+1]?=some (.cells zB 57 (0,0))) (g2:W.heap[s+2]?=some (.cells (cO none) 74 (0,0))) (hx:A.ex (s+2)) (r:Option Od):Fin A b x y s w W r:=by
 have g2':(W.setRow (s+1) #[x,y,.int .i64 b.2.2]).heap[s+2]?=some (.cells (cO none) 74 (0,0)):=(setRow_other W (s+1) (s+2) _ (by omega)).trans g2
 have hk1:Keeps A (106 :: eL.ts) W (W.setRow (s+1) #[x,y,.int .i64 b.2.2]):=keeps_setRow _ g1 (by decide) (by omega)
 have ha:=alt_setRow (Alt.refl (fun b=>b=s+2) (W.setRow (s+1) #[x,y,.int .i64 b.2.2])) (b:=s+2) rfl (cO r)
 have hk2:Keeps A (106 :: eL.ts) (W.setRow (s+1) #[x,y,.int .i64 b.2.2]) ((W.setRow (s+1) #[x,y,.int .i64 b.2.2]).setRow (s+2) (cO r)):=Keeps.of_alt ha (fun b hb _=>by subst hb;exact ⟨hx,by omega⟩)
 have hk:=hk1.trans hk2
 refine ⟨by unfold Rw.plain;rw [g1];rfl,by unfold Rw.plain;rw [g2'];rfl,?_,?_,below_setRow (below_setRow hb (by omega) _) (by omega) _,⟨x,y,rfl,Is.keep eL 106 h1 hk,Is.keep eL 106 h2 hk⟩⟩
 ·unfold Rw.row
  rw [setRow_other _ (s+2) (s+1) _ (by omega),setRow_heap W (s+1) _ _ _ _ g1]
 ·unfold Rw.row
  rw [setRow_heap _ (s+2) _ _ _ _ g2']
structure FinM (x y:Value) (n:Int) (o:Option Od) (s k m:Nat) (W:World):Prop where
 a1:row W m=#[x,y,.int .i64 n]
 a2:row W k=cO o
 a3:row (W.setRow (s+1) #[x,y,.int .i64 n]) k=cO o
 a4:row (W.setRow (s+1+1) (cO o)) m=#[x,y,.int .i64 n]
 a5:plain 3 W (s+1)=true
 a6:plain 5 W (s+1+1)=true
 a7:plain 3 (W.setRow (s+1+1) (cO o)) (s+1)=true
 a8:plain 5 (W.setRow (s+1) #[x,y,.int .i64 n]) (s+1+1)=true
 a9:(W.setRow (s+1+1) (cO o)).setRow (s+1) #[x,y,.int .i64 n]=(W.setRow (s+1) #[x,y,.int .i64 n]).setRow (s+1+1) (cO o)
theorem finM {x y:Value} {n:Int} {s k m:Nat} {W:World} {o:Option Od} (g0:W.heap[m]?=some (.cells #[x,y,.int .i64 n] 57 (0,0))) (g1:W.heap[s+1]?=some (.cells zB 57 (0,0))) (g2:W.heap[s+2]?=some (.cells (cO none) 74 (0,0))) (hk:W.heap[k]?=some (.cells (cO o) 74 (0,0))) (hks:s+2<k) (hms:s+2<m):FinM x y n o s k m W:=by
 refine ⟨by unfold Rw.row;rw [g0],by unfold Rw.row;rw [hk],?_,?_,by unfold Rw.plain;rw [g1];rfl,by unfold Rw.plain;rw [g2];rfl,?_,?_,setRow_comm _ _ _ (by omega)⟩
 ·unfold Rw.row;rw [setRow_other W (s+1) k _ (by omega),hk]
 ·unfold Rw.row;rw [setRow_other W (s+1+1) m _ (by omega),g0]
 ·unfold Rw.plain;rw [setRow_other W (s+1+1) (s+1) _ (by omega),g1];rfl
 ·unfold Rw.plain;rw [setRow_other W (s+1) (s+1+1) _ (by omega),g2];rfl
theorem fndB_app (b:Bk) (id:Int):fnd (flat (b.1++b.2.1)) id=fndB b id:=by
 rw [flat_app,fnd_app];rfl
theorem side_of {b:Bk} {id:Int} {o:Od} (h:RightB b) (hf:fndB b id=some o):o.2.2.1=1∨o.2.2.1=2:=by
 unfold fndB at hf
 cases e:fnd (flat b.1) id with
 | some x =>
  rw [e] at hf
  obtain rfl:=Option.some.inj hf
  exact .inl (omay_iff.1 (mem_may h.buys (fnd_some e).1)).2.2.2.2.1
 | none =>
  rw [e] at hf
  exact .inr (omay_iff.1 (mem_may h.sells (fnd_some hf).1)).2.2.2.2.1
theorem cancel_any (B:Bs) (b:Bk) (v:Value) (ow id:Int) (w:World) (h:BL B b v w) (hB:B.le w.heap.size) (h1:b.1.length≤1000) (h2:(flat b.1).length≤1000) (h3:b.2.1.length≤1000) (h4:(flat b.2.1).length≤1000) :
  Calls Tryz.prog 154 #[v,.int .i64 ow,.int .i64 id] w (PostC B (cancel b ow id) w):=by
 obtain ⟨x,y,rfl,hx,hy⟩:=h
 obtain ⟨C,hC⟩:∃ C,cancel b ow id=C:=⟨_,rfl⟩
 rw [hC]
 obtain ⟨s,hs⟩:∃ s,w.heap.size=s:=⟨_,rfl⟩
 obtain ⟨V,hV⟩:∃ V,V=((w.alloc (.cells #[x,y,.int .i64 b.2.2] 57)).alloc (.cells #[.slice none 0 0,.slice none 0 0,.int .i64 0] 57)).alloc (.cells #[.int .i64 0,.int .i64 0,.int .i64 0,.int .i64 0,.int .i64 0] 74):=⟨_,rfl⟩
 have hbV:Below w.heap.size w V:=hV ▸ below3 w _ _ _
 have hzV:V.heap.size=s+3:=by rw [hV,← hs];simp
 obtain ⟨A,hA⟩:∃ A,A=B.but (fun b=>b=s+2):=⟨_,rfl⟩
 have hAB:A.sub B:=by rw [hA];exact Bs.sub_but _ _
 have hAx:A.ex (s+2):=by rw [hA];exact .inr rfl
 have hAl:A.le (s+3):=by rw [hA];exact Bs.but_le (hB.mono (by omega)) (fun b hb=>by omega)
 have hAlo:A.lo≤s:=by have:=hB.1;rw [hA,← hs];exact this
 have hxV:LL A b.1 x V:=by rw [hA];exact Is.stays eL 106 (Is.now eL 106 hx (fun b hb=>by omega)) hbV
 have hyV:LL A b.2.1 y V:=by rw [hA];exact Is.stays eL 106 (Is.now eL 106 hy (fun b hb=>by omega)) hbV
 have k0:V.heap[s]?=some (.cells #[x,y,.int .i64 b.2.2] 57 (0,0)):=by
  rw [hV,← hs];exact ((below2 _ _ _).block _ (by simp)).trans (heap_alloc_new w _)
 have k1:V.heap[s+1]?=some (.cells zB 57 (0,0)):=by
  have:=((below1 ((w.alloc (.cells #[x,y,.int .i64 b.2.2] 57)).alloc (.cells #[.slice none 0 0,.slice none 0 0,.int .i64 0] 57)) (.cells #[.int .i64 0,.int .i64 0,.int .i64 0,.int .i64 0,.int .i64 0] 74)).block _ (by simp)).trans (heap_alloc_new (w.alloc (.cells #[x,y,.int .i64 b.2.2] 57)) (.cells #[.slice none 0 0,.slice none 0 0,.int .i64 0] 57))
  rw [World.size_alloc,hs] at this
  rw [hV];exact this
 have k2:V.heap[s+2]?=some (.cells (cO none) 74 (0,0)):=by
  have:=heap_alloc_new ((w.alloc (.cells #[x,y,.int .i64 b.2.2] 57)).alloc (.cells #[.slice none 0 0,.slice none 0 0,.int .i64 0] 57)) (.cells #[.int .i64 0,.int .i64 0,.int .i64 0,.int .i64 0,.int .i64 0] 74)
  rw [World.size_alloc,World.size_alloc,hs] at this
  rw [hV];exact this
 have hcf:CF A b x y s w V:=⟨k0,hAlo,hxV,hyV,by rw [← hs];exact hbV⟩
 obtain ⟨a1,c1,rfl⟩:=hx.len
 obtain ⟨a2,c2,rfl⟩:=hy.len
 obtain ⟨n,hn⟩:∃ n,b.2.2=n:=⟨_,rfl⟩
 obtain ⟨n1,hn1⟩:∃ n,b.1.length=n:=⟨_,rfl⟩
 obtain ⟨n2,hn2⟩:∃ n,b.2.1.length=n:=⟨_,rfl⟩
 have hfin:∀ u,Below V.heap.size V u→Fin A b (.slice a1 n1 c1) (.slice a2 n2 c2) s w u none:=fun u hu=>by
  rw [← hn1,← hn2]
  exact (hcf.stays hu).fin ((hu.block _ (by omega)).trans k1) ((hu.block _ (by omega)).trans k2) hAx none
 have hfa:∀ u,Below V.heap.size V u→Rw.row u s=#[.slice a1 n1 c1,.slice a2 n2 c2,.int .i64 n]∧u.cell? ⟨s,0,none⟩=some (.slice a1 n1 c1)∧u.cell? ⟨s,1,none⟩=some (.slice a2 n2 c2)∧s<u.heap.size∧s+1<u.heap.size∧s+1+1<u.heap.size:=fun u hu=>by
  have k:=hcf.stays hu
  have:=hu.size
  rw [← hn1,← hn2,← hn]
  exact ⟨k.row,k.cells.1,k.cells.2.1,by omega,by omega,by omega⟩
 have HFin:=lH hfin
 have HFa:=lH hfa
 have HCF:=lH hcf
 rw [hn1,hn2,hn] at hV
 have HV:=lH hV
 have HK1:=lH k1
 have HK2:=lH k2
 have HC:=lH hC
 have HS:=lH hs
 have HN:=lH hn
 have HN1:=lH hn1
 have HN2:=lH hn2
 have HBL:=lH (show ∀ u,Below V.heap.size V u→BL A b (.agg #[.slice a1 n1 c1,.slice a2 n2 c2,.int .i64 n]) u from fun u hu=>by
  have:=(hcf.stays hu).bl
  rw [hn1,hn2,hn] at this;exact this)
 rw [hn1,hn2,hn]
 rw [hs] at hbV
 clear hV hxV hyV k0 k1 k2 hC hx hy hfin hfa hcf hA
 go_enter Tryz.func154,Tryz.ntmps154
 go_wp2_with fail
 rw [← HV.out]
 refine (right_anyB A b _ V (HBL.out V (Below.refl _ _)) (by rw [hzV];exact hAl) h1 h2 h3 h4).mono ?_
 rintro e w1 ⟨rfl,hb1⟩
 obtain ⟨r0,q0,q1,z0,z1,z2⟩:=HFa.out w1 hb1
 obtain ⟨p1,p2,e1,e2,e3,e4⟩:=HFin.out w1 hb1
 rw [HN.out] at p2 e1 e2 e3 e4
 cases hright:rightB b
 ·have HC3:Hid (C=(b,none,1)):=lH (by rw [← HC.out];unfold cancel;rw [hright];rfl)
  have HZ:=lH (show _∧_∧_∧_ from ⟨e1,e2,e3,e4⟩)
  clear e1 e2 e3 e4 hright q0 q1
  go_wp2
  refine bodyPost_ret (v:=.tuple #[.agg #[.slice a1 n1 c1,.slice a2 n2 c2,.int .i64 n],.agg (cO none),.int .i64 1]) (ret_BOE Tryz.results154 _ _ rfl ?c1 (cO_size none) ?c2) rfl ?c3
  case c1=>first | exact HZ.out.1 | (simp only [go_sem];exact HZ.out.1)
  case c2=>first | exact HZ.out.2.1 | (simp only [go_sem];exact HZ.out.2.1)
  case c3=>rw [HC3.out];exact ⟨_,rfl,by rw [HS.out];exact HZ.out.2.2.1,HZ.out.2.2.2.up hAB⟩
 have HRt:=lH (rightB_iff.1 hright)
 have hz1:=hb1.size
 clear hright p1 p2 e1 e2 e3 e4
 obtain ⟨P,hP⟩:∃ P,P=w1.alloc (.cells #[.slice a1 n1 c1,.slice a2 n2 c2] 55):=⟨_,rfl⟩
 have hbP:Below w1.heap.size w1 P:=hP ▸ below1 w1 _
 have hzP:P.heap.size=w1.heap.size+1:=by rw [hP];simp
 have hbVP:=nx hb1 hbP
 have P0:P.cell? ⟨w1.heap.size,0,none⟩=some (.slice a1 n1 c1):=by rw [hP];simp [go_sem]
 have P1:P.cell? ⟨w1.heap.size,1,none⟩=some (.slice a2 n2 c2):=by rw [hP];simp [go_sem]
 have HP0:=lH P0
 have HP1:=lH P1
 have HP:=lH hP
 have HLl:=lH (show ∀ u,Below V.heap.size V u→LL A b.1 (.slice a1 n1 c1) u∧LL A b.2.1 (.slice a2 n2 c2) u∧A.le u.heap.size from fun u hu=>by
  obtain ⟨x1,y1,e1,l1,l2⟩:=HBL.out u hu
  simp only [Value.agg.injEq,Array.mk.injEq,List.cons.injEq] at e1
  obtain ⟨rfl,rfl,_⟩:=e1
  exact ⟨l1,l2,hAl.mono (by have:=hu.size;omega)⟩)
 obtain ⟨q,hq⟩:∃ q,fndB b id=q:=⟨_,rfl⟩
 have HQ:=lH hq
 have hcs:=cO_size q
 have h1c:oneAll (.agg (cO q))=true:=by cases q<;>exact one5 _ _ _ _ _
 clear hP hq P0 P1
 go_wp2_with fail
 rw [← HP.out]
 clear r0 q0 q1 z0 z1 z2
 refine (concat_any A b.1 b.2.1 _ _ w1.heap.size P (HLl.out P hbVP).1 (HLl.out P hbVP).2.1 (by omega) HP0.out HP1.out (HLl.out P hbVP).2.2 (by omega) (by omega)).mono ?_
 rintro e w2 ⟨v2,rfl,hb2,hl2⟩
 have HL2:=lH hl2
 obtain ⟨a3,c3,rfl⟩:=hl2.len
 obtain ⟨n3,hn3⟩:∃ n,(b.1++b.2.1).length=n:=⟨_,rfl⟩
 have hn3l:n3≤2000:=by rw [← hn3,List.length_append];omega
 rw [hn3] at HL2 ⊢
 have hb2V:=nx hbVP hb2
 clear hl2 hn3
 go_wp2_with fail
 refine (find_big A (b.1++b.2.1) _ id w2 HL2.out (by rw [List.length_append];omega) (by rw [flat_app,List.length_append];omega)).mono ?_
 rintro e w3 ⟨rfl,hb3⟩
 rw [fndB_app,HQ.out,fV_is]
 have hb3V:=nx hb2V hb3
 have hz3:=hb3V.size
 obtain ⟨k,hk⟩:∃ k,k=w3.heap.size:=⟨_,rfl⟩
 obtain ⟨K,hK⟩:∃ K,K=w3.alloc (.cells (cO q) 74):=⟨_,rfl⟩
 have hbK:Below w3.heap.size w3 K:=hK ▸ below1 w3 _
 have hzK:K.heap.size=k+1:=by rw [hK,hk];simp
 have hKk:K.heap[k]?=some (.cells (cO q) 74 (0,0)):=by rw [hK,hk];exact heap_alloc_new w3 _
 have hbKV:=nx hb3V hbK
 have HKk:=lH hKk
 have HK:=lH hK
 have HKs:=lH hk
 obtain ⟨r0,q0,q1,z0,z1,z2⟩:=HFa.out w3 hb3V
 obtain ⟨p1,p2,e1,e2,e3,e4⟩:=HFin.out w3 hb3V
 rw [HN.out] at p2 e1 e2 e3 e4
 have hz9:((w3.setRow (s+1) #[.slice a1 n1 c1,.slice a2 n2 c2,.int .i64 n]).setRow (s+1+1) (cO none)).heap.size=w3.heap.size:=by rw [setRow_size,setRow_size]
 have HZ:=lH (show _∧_∧_∧_ from ⟨(row_alloc _ (.cells (cO q) 74) (by rw [hz9];omega)).trans e1,(row_alloc _ (.cells (cO q) 74) (by rw [hz9];omega)).trans e2,e3.trans ((below1 _ (.cells (cO q) 74)).mono (by rw [hz9];omega)),e4.stays (below1 _ (.cells (cO q) 74))⟩)
 clear e1 e2 e3 e4 hK hKk hz9
 cases hsm:q.isSome
 ·have hn9:q=none:=Option.not_isSome_iff_eq_none.1 (by rw [hsm];decide)
  have HC3:Hid (C=(b,none,8)):=lH (by rw [← HC.out];unfold cancel;rw [rightB_iff.2 HRt.out,HQ.out,hn9];rfl)
  clear hn9 q0 q1
  go_wp2
  refine bodyPost_ret (v:=.tuple #[.agg #[.slice a1 n1 c1,.slice a2 n2 c2,.int .i64 n],.agg (cO none),.int .i64 8]) (ret_BOE Tryz.results154 _ _ rfl ?c1 (cO_size none) ?c2) rfl ?c3
  case c1=>first | exact HZ.out.1 | (simp only [go_sem];exact HZ.out.1)
  case c2=>first | exact HZ.out.2.1 | (simp only [go_sem];exact HZ.out.2.1)
  case c3=>rw [HC3.out];exact ⟨_,rfl,by rw [HS.out];exact HZ.out.2.2.1,HZ.out.2.2.2.up hAB⟩
 obtain ⟨⟨o1,o2,o3,o4,o5⟩,ho⟩:=Option.isSome_iff_exists.1 hsm
 have hfb:=HQ.out.trans ho
 have e1:(cO q)[1]?=some (.int .i64 o2):=by rw [ho];rfl
 have e2:(cO q)[2]?=some (.int .i64 o3):=by rw [ho];rfl
 have e1':∀ h,(cO q)[1]'h=.int .i64 o2:=by rw [ho];exact fun _=>rfl
 have e2':∀ h,(cO q)[2]'h=.int .i64 o3:=by rw [ho];exact fun _=>rfl
 have hcc:=cancel_cases (b:=b) (ow:=ow) (id:=id) HRt.out
 have hcc2:(o2≠ow→C=(b,none,9))∧(o2=ow→o1=id∧C=(remB b (o1,o2,o3,o4,o5),q,0)):=by
  rw [hfb,HC.out] at hcc
  rcases hcc with ⟨h,_⟩ | ⟨o,h,k,h2⟩ | ⟨o,h,k,k2,h2,_⟩
  ·cases h
  ·obtain rfl:=Option.some.inj h
   exact ⟨fun _=>h2,fun e=>absurd e k⟩
  ·obtain rfl:=Option.some.inj h
   exact ⟨fun e=>absurd k e,fun _=>⟨k2,by rw [h2,ho]⟩⟩
 have hsd:=side_of HRt.out hfb
 have HCc:=lH hcc2
 have HSd:=lH hsd
 clear hcc hcc2 hfb hsd ho hsm
 by_cases how:o2=ow
 ·have hd2:(o2==ow)=true:=by simpa using how
  obtain ⟨hid1,hC2⟩:=HCc.out.2 how
  have HC2:=lH hC2
  clear hC2 how q0 q1
  go_wp2_with fail
  rw [← HK.out]
  refine (clonedB_any A b _ K (HBL.out K hbKV) (hAl.mono (by omega)) (by omega) (by omega) (by omega) (by omega)).mono ?_
  rintro e w4 ⟨x',y',hs1,hs2,rfl,hb4,hmy⟩
  rw [HN.out]
  obtain ⟨x1,y1,e9,hx4,hy4⟩:=hmy.bl
  simp only [Value.agg.injEq,Array.mk.injEq,List.cons.injEq,and_true] at e9
  obtain ⟨rfl,rfl⟩:=e9
  obtain ⟨a4,c4,rfl⟩:=hx4.len
  obtain ⟨a5,c5,rfl⟩:=hy4.len
  obtain ⟨n4,hn4⟩:∃ n,b.1.length=n:=⟨_,rfl⟩
  obtain ⟨n5,hn5⟩:∃ n,b.2.1.length=n:=⟨_,rfl⟩
  rw [hn4] at hx4 ⊢
  rw [hn5] at hy4 ⊢
  have hz4:=hb4.size
  have hb4V:=nx hbKV hb4
  have hk4:=(hb4.block _ (by omega)).trans HKk.out
  rw [hk] at hk4
  have m2:w4.cell? ⟨w3.heap.size,2,none⟩=some (.int .i64 o3):=by simp [World.cell?,hk4,e2]
  have hl34:w3.heap.size<w4.heap.size:=by omega
  obtain ⟨M,hM⟩:∃ M,M=w4.alloc (.cells #[.slice a4 n4 c4,.slice a5 n5 c5,.int .i64 n] 57):=⟨_,rfl⟩
  have hbM:Below w4.heap.size w4 M:=hM ▸ below1 w4 _
  have hzM:M.heap.size=w4.heap.size+1:=by rw [hM];simp
  have hMm:M.heap[w4.heap.size]?=some (.cells #[.slice a4 n4 c4,.slice a5 n5 c5,.int .i64 n] 57 (0,0)):=by rw [hM];exact heap_alloc_new w4 _
  have HMm:=lH hMm
  have HK4:=lH hk4
  have HX4:=lH hx4
  have HY4:=lH hy4
  have HM:=lH hM
  clear hM hMm hk4 hx4 hy4 hmy hn4 hn5 p1 p2 r0
  rcases HSd.out with h3' | h3'
  ·obtain rfl:o3=1:=h3'
   go_wp2_with fail
   rw [← HM.out]
   refine (sides_any w4.heap.size (1:Int) M).mono ?_
   rintro e w5 ⟨rfl,hb5⟩
   first | rw [if_pos rfl] | rw [if_neg (by decide)]
   have hz5:=hb5.size
   have g5:=(hb5.block _ (by omega)).trans HMm.out
   have i0:w5.cell? ⟨w4.heap.size,0,none⟩=some (.slice a4 n4 c4):=by simp [World.cell?,g5]
   have hb45:=nx hbM hb5
   clear m2
   go_wp2_with fail
   refine (remove_big A b.1 _ id w5 (Is.stays eL 106 HX4.out hb45) (hAl.mono (by omega)) (by omega) (by omega)).mono ?_
   rintro e w6 ⟨t,rfl,hb6,hlt⟩
   obtain ⟨a6,c6,rfl⟩:=hlt.len
   obtain ⟨n6,hn6⟩:∃ n,(rem b.1 id).length=n:=⟨_,rfl⟩
   rw [hn6] at hlt ⊢
   have hb46:=nx hb45 hb6
   have hz6:=hb6.size
   have g6:=(hb6.block _ (by omega)).trans g5
   have j0:w6.cell? ⟨w4.heap.size,0,none⟩=some (.slice a4 n4 c4):=by simp [World.cell?,g6]
   have j1:w6.frozen? ⟨w4.heap.size,0,none⟩=false:=by simp [World.frozen?,g6]
   have hl46:w4.heap.size<w6.heap.size:=by omega
   clear i0 g5
   obtain ⟨F,hF⟩:∃ F,F=w6.setCell ⟨w4.heap.size,0,none⟩ (.slice a6 n6 c6):=⟨_,rfl⟩
   have hzF:F.heap.size=w6.heap.size:=by rw [hF];simp
   have hne:∀ q,q≠w4.heap.size→F.heap[q]?=w6.heap[q]?:=fun q hq=>by rw [hF];exact Below.heap_setCell w6 ⟨w4.heap.size,0,none⟩ _ q hq
   have g0F:F.heap[w4.heap.size]?=some (.cells #[.slice a6 n6 c6,.slice a5 n5 c5,.int .i64 n] 57 (0,0)):=by rw [hF];exact set3 g6
   have hb6V:=nx hb4V hb46
   have g1F:=(hne (s+1) (by omega)).trans ((hb6V.block _ (by omega)).trans HK1.out)
   have g2F:=(hne (s+2) (by omega)).trans ((hb6V.block _ (by omega)).trans HK2.out)
   have gkF:=(hne w3.heap.size (by omega)).trans ((hb46.block _ (by omega)).trans HK4.out)
   have hkF:∀ ts,57 ∉ ts→Keeps A ts w6 F:=fun ts ht=>by rw [hF];exact keeps_setCell 0 _ g6 ht (by omega)
   have hlF:LL A (rem b.1 id) (.slice a6 n6 c6) F:=Is.keep eL 106 hlt (hkF _ (by decide))
   have hoF:LL A b.2.1 (.slice a5 n5 c5) F:=Is.keep eL 106 (Is.stays eL 106 HY4.out hb46) (hkF _ (by decide))
   have hbF:Below s w F:=by
    rw [hF]
    exact (hbV.trans (hb6V.mono (by omega))).setCell (by show s≤w4.heap.size;omega) _
   obtain ⟨b1,b2,b3,b4,b5,b6,b7,b8,b9⟩:=finM g0F g1F g2F gkF (by omega) (by omega)
   obtain ⟨_,_,e5,e6,e7,e8⟩:=fin2 (b:=(rem b.1 id,b.2.1,b.2.2)) hAlo hbF hlF hoF g1F g2F hAx q
   simp only [HN.out] at e5 e6 e7 e8
   have HZ2:=lH (show _∧_∧_∧_ from ⟨e5,e6,e7.drew,e8.stays (Below.refl _ _).drew⟩)
   have HC3:Hid (C=((rem b.1 id,b.2.1,b.2.2),q,0)):=lH (by rw [HC2.out];unfold remB;rw [if_pos (show (o1,o2,(1:Int),o4,o5).2.2.1=1 from rfl),show (o1,o2,(1:Int),o4,o5).1=id from hid1])
   have HF:=lH hF
   clear e5 e6 e7 e8 hF hne g0F g1F g2F gkF hkF hlF hoF hbF g6 hlt hn6 HZ
   go_wp2
   rw [← HF.out]
   go_region
   go_wp2
   refine bodyPost_ret (v:=.tuple #[.agg #[.slice a6 n6 c6,.slice a5 n5 c5,.int .i64 n],.agg (cO q),.int .i64 0]) (ret_BOE Tryz.results154 _ _ rfl ?c1 (cO_size q) ?c2) rfl ?c3
   case c1=>first | exact HZ2.out.1 | (simp only [go_sem];exact HZ2.out.1)
   case c2=>first | exact HZ2.out.2.1 | (simp only [go_sem];exact HZ2.out.2.1)
   case c3=>rw [HC3.out,HN.out];exact ⟨_,rfl,by rw [HS.out];exact HZ2.out.2.2.1,HZ2.out.2.2.2.up hAB⟩
  ·obtain rfl:o3=2:=h3'
   go_wp2_with fail
   rw [← HM.out]
   refine (sides_any w4.heap.size (2:Int) M).mono ?_
   rintro e w5 ⟨rfl,hb5⟩
   first | rw [if_pos rfl] | rw [if_neg (by decide)]
   have hz5:=hb5.size
   have g5:=(hb5.block _ (by omega)).trans HMm.out
   have i0:w5.cell? ⟨w4.heap.size,1,none⟩=some (.slice a5 n5 c5):=by simp [World.cell?,g5]
   have hb45:=nx hbM hb5
   clear m2
   go_wp2_with fail
   refine (remove_big A b.2.1 _ id w5 (Is.stays eL 106 HY4.out hb45) (hAl.mono (by omega)) (by omega) (by omega)).mono ?_
   rintro e w6 ⟨t,rfl,hb6,hlt⟩
   obtain ⟨a6,c6,rfl⟩:=hlt.len
   obtain ⟨n6,hn6⟩:∃ n,(rem b.2.1 id).length=n:=⟨_,rfl⟩
   rw [hn6] at hlt ⊢
   have hb46:=nx hb45 hb6
   have hz6:=hb6.size
   have g6:=(hb6.block _ (by omega)).trans g5
   have j0:w6.cell? ⟨w4.heap.size,1,none⟩=some (.slice a5 n5 c5):=by simp [World.cell?,g6]
   have j1:w6.frozen? ⟨w4.heap.size,1,none⟩=false:=by simp [World.frozen?,g6]
   have hl46:w4.heap.size<w6.heap.size:=by omega
   clear i0 g5
   obtain ⟨F,hF⟩:∃ F,F=w6.setCell ⟨w4.heap.size,1,none⟩ (.slice a6 n6 c6):=⟨_,rfl⟩
   have hzF:F.heap.size=w6.heap.size:=by rw [hF];simp
   have hne:∀ q,q≠w4.heap.size→F.heap[q]?=w6.heap[q]?:=fun q hq=>by rw [hF];exact Below.heap_setCell w6 ⟨w4.heap.size,1,none⟩ _ q hq
   have g0F:F.heap[w4.heap.size]?=some (.cells #[.slice a4 n4 c4,.slice a6 n6 c6,.int .i64 n] 57 (0,0)):=by rw [hF];exact set3 g6
   have hb6V:=nx hb4V hb46
   have g1F:=(hne (s+1) (by omega)).trans ((hb6V.block _ (by omega)).trans HK1.out)
   have g2F:=(hne (s+2) (by omega)).trans ((hb6V.block _ (by omega)).trans HK2.out)
   have gkF:=(hne w3.heap.size (by omega)).trans ((hb46.block _ (by omega)).trans HK4.out)
   have hkF:∀ ts,57 ∉ ts→Keeps A ts w6 F:=fun ts ht=>by rw [hF];exact keeps_setCell 1 _ g6 ht (by omega)
   have hlF:LL A (rem b.2.1 id) (.slice a6 n6 c6) F:=Is.keep eL 106 hlt (hkF _ (by decide))
   have hoF:LL A b.1 (.slice a4 n4 c4) F:=Is.keep eL 106 (Is.stays eL 106 HX4.out hb46) (hkF _ (by decide))
   have hbF:Below s w F:=by
    rw [hF]
    exact (hbV.trans (hb6V.mono (by omega))).setCell (by show s≤w4.heap.size;omega) _
   obtain ⟨b1,b2,b3,b4,b5,b6,b7,b8,b9⟩:=finM g0F g1F g2F gkF (by omega) (by omega)
   obtain ⟨_,_,e5,e6,e7,e8⟩:=fin2 (b:=(b.1,rem b.2.1 id,b.2.2)) hAlo hbF hoF hlF g1F g2F hAx q
   simp only [HN.out] at e5 e6 e7 e8
   have HZ2:=lH (show _∧_∧_∧_ from ⟨e5,e6,e7.drew,e8.stays (Below.refl _ _).drew⟩)
   have HC3:Hid (C=((b.1,rem b.2.1 id,b.2.2),q,0)):=lH (by rw [HC2.out];unfold remB;rw [if_neg (show ¬ (o1,o2,(2:Int),o4,o5).2.2.1=1 by show ¬ (2:Int)=1;decide),show (o1,o2,(2:Int),o4,o5).1=id from hid1])
   have HF:=lH hF
   clear e5 e6 e7 e8 hF hne g0F g1F g2F gkF hkF hlF hoF hbF g6 hlt hn6 HZ
   go_wp2
   rw [← HF.out]
   go_region
   go_wp2
   refine bodyPost_ret (v:=.tuple #[.agg #[.slice a4 n4 c4,.slice a6 n6 c6,.int .i64 n],.agg (cO q),.int .i64 0]) (ret_BOE Tryz.results154 _ _ rfl ?c1 (cO_size q) ?c2) rfl ?c3
   case c1=>first | exact HZ2.out.1 | (simp only [go_sem];exact HZ2.out.1)
   case c2=>first | exact HZ2.out.2.1 | (simp only [go_sem];exact HZ2.out.2.1)
   case c3=>rw [HC3.out,HN.out];exact ⟨_,rfl,by rw [HS.out];exact HZ2.out.2.2.1,HZ2.out.2.2.2.up hAB⟩
 ·have hd2:(o2==ow)=false:=by simpa using how
  have HC3:=lH (HCc.out.1 how)
  clear how q0 q1
  go_wp2
  refine bodyPost_ret (v:=.tuple #[.agg #[.slice a1 n1 c1,.slice a2 n2 c2,.int .i64 n],.agg (cO none),.int .i64 9]) (ret_BOE Tryz.results154 _ _ rfl ?c1 (cO_size none) ?c2) rfl ?c3
  case c1=>first | exact HZ.out.1 | (simp only [go_sem];exact HZ.out.1)
  case c2=>first | exact HZ.out.2.1 | (simp only [go_sem];exact HZ.out.2.1)
  case c3=>rw [HC3.out];exact ⟨_,rfl,by rw [HS.out];exact HZ.out.2.2.1,HZ.out.2.2.2.up hAB⟩
end Go.Proofs.YtjhocpcpkemcaaaGreat.Bk
namespace Go.Proofs.YtjhocpcpkemcaaaGreat.La
open Go.RowKit
open Rw
open Da
open Le
open Bk
open Ac (Hd Pu HL pmay pmay_iff tot total giveE giveL takeE takeL)
theorem cancelB_is {b:Bk} {ow id:Int} {c:Bk × Option Od × Int} (h:Hid (cancel b ow id=c)) (h1:b.1.length≤1000) (h2:(flat b.1).length≤1000) (h3:b.2.1.length≤1000) (h4:(flat b.2.1).length≤1000) (B:Bs) (v:Value) (w:World) (hb:BL B b v w) (hB:B.le w.heap.size) :
  Calls Tryz.prog 154 #[v,.int .i64 ow,.int .i64 id] w (CaR B c.1 c.2.1 c.2.2 w):=by
 rw [← h.out]
 refine (cancel_any B b v ow id w hb hB h1 h2 h3 h4).mono fun e w' h=>?_
 obtain ⟨bv,rfl,hb,⟨x,y,rfl,h1,h2⟩⟩:=h
 obtain ⟨a1,c1,rfl⟩:=h1.len
 obtain ⟨a2,c2,rfl⟩:=h2.len
 exact ⟨a1,_,c1,a2,_,c2,_,rfl,rfl,hb,h1,h2⟩
theorem giveH_is {lo:Nat} {l:List Hd} {v:Value} {p q n E:Int} {w:World} (hE:Hid (giveE l (p,q) n=E)) (h:HL lo l v w) (hm:l.length≤1000000) :
  Calls Tryz.prog 148 #[v,.agg #[.int .i64 p,.int .i64 q],.int .i64 n] w fun e w'=>∃ a m c,e=.returned (.tuple #[.slice a m c,.int .i64 E])∧Below w.heap.size w w'∧HL lo (giveL l (p,q) n) (.slice a m c) w':=by
 rw [← hE.out]
 refine (Ac.give_any l v p q n w h hm).mono ?_
 rintro e w' ⟨v,rfl,hb,hf⟩
 obtain ⟨a,c,rfl⟩:=hl_slice hf
 exact ⟨a,_,c,rfl,hb,hf⟩
theorem VB.owed {B:Bs} {lb lq:Int} {bk:Bk} {od od':List Hd} {x y o o':Value} {m:Nat} {w:World} (h:VB B (lb,lq,bk,od) x y o m w) (h3:HL B.lo od' o' w) :
  VB B (lb,lq,bk,od') x y o' m (w.setCell ⟨m,5,none⟩ o')∧(∀ ts,137 ∉ ts→∀ A:Bs,A.lo≤m→Da.Keeps A ts w (w.setCell ⟨m,5,none⟩ o'))∧(∀ k,k≠m→(w.setCell ⟨m,5,none⟩ o').heap[k]?=w.heap[k]?)∧∀ n,n≤m→Below n w (w.setCell ⟨m,5,none⟩ o') :=
 ⟨h.set (m:=(lb,lq,bk,od')) 5 o' rfl h.l1 h.l2 h3,fun ts ht A hA=>keeps_setCell 5 o' h.bk ht hA,fun k hk=>Below.heap_setCell _ ⟨m,5,none⟩ _ k hk,fun n hn=>low_setCell 5 o' hn⟩
theorem lcancel_any (B:Bs) (l:Ln) (v:Value) (fr:List Hd) (fv:Value) (ow id:Int) (w:World) (h:LN B l v w) (hfr:HL B.lo fr fv w) (hB:B.le w.heap.size) (hs:Sm l) (hfm:fr.length≤1000) :
  Calls Tryz.prog 127 #[v,fv,.int .i64 ow,.int .i64 id] w (PostCN B (cancelN l fr ow id) w):=by
 have HSm:=lH hs
 obtain ⟨R,hR⟩:∃ R,cancelN l fr ow id=R:=⟨_,rfl⟩
 have HR:=lH hR
 rw [hR]
 obtain ⟨r,hr⟩:∃ r,(rightN l&&Ac.right fr)=r:=⟨_,rfl⟩
 have HR1:=lH hr
 have hm1:=hs.m1
 have hm2:=hs.m2
 have hm3:=hs.m3
 have hm4:=hs.m4
 have hm5:=hs.m5
 clear hR hr
 obtain ⟨lb,lq,⟨bu,se,nn⟩,od⟩:=l
 simp only at hm1 hm2 hm3 hm4 hm5
 obtain ⟨a1,n1,c1,a2,n2,c2,a3,n3,c3,rfl,e1,e2,e3,hl1,hl2,hl3⟩:=h.open'
 simp only at e1 e2 e3 hl1 hl2 hl3
 obtain ⟨V,hV⟩:∃ V,V=(w.alloc (.cells (cN lb lq (.slice a1 n1 c1) (.slice a2 n2 c2) nn (.slice a3 n3 c3)) 59)).alloc (.cells (nilN 0 0 0) 59):=⟨_,rfl⟩
 have hbV:Below w.heap.size w V:=hV ▸ below2 w _ _
 have hx0:LB B (lb,lq,(bu,se,nn),od) (.slice a1 n1 c1) (.slice a2 n2 c2) (.slice a3 n3 c3) w.heap.size V:=by rw [hV];exact (LB.made hl1 hl2 hl3 hB.1).stays (below1 _ _)
 have hg0:V.heap[w.heap.size+1]?=some (.cells (nilN 0 0 0) 59 (0,0)):=by
  have:=heap_alloc_new (w.alloc (.cells (cN lb lq (.slice a1 n1 c1) (.slice a2 n2 c2) nn (.slice a3 n3 c3)) 59)) (.cells (nilN 0 0 0) 59)
  rw [World.size_alloc] at this
  rw [hV];exact this
 have HB:=lH (show ∀ u,Below w.heap.size w u→B.le u.heap.size from fun u hu=>hB.mono hu.size)
 have HSt0:=lH (show St0 B (lb,lq,(bu,se,nn),od) (.slice a1 n1 c1) (.slice a2 n2 c2) (.slice a3 n3 c3) w.heap.size fr fv w V from ⟨hx0,hg0,hl_stays hfr hbV,hbV⟩)
 obtain ⟨fa,fc,rfl⟩:=hl_slice hfr
 obtain ⟨fn,hfn⟩:∃ fn,fr.length=fn:=⟨_,rfl⟩
 rw [hfn] at HSt0 hfm ⊢
 have HFn:=lH hfn
 have r0:=hx0.row
 simp only at r0
 rw [hV] at r0
 have HV:=lH hV
 clear hx0 hg0 hl1 hl2 hl3 h hfr hB e1 e2 e3 hV hfn hs
 go_enter Tryz.func127,Tryz.ntmps127
 go_wp2_with fail
 rw [← HV.out]
 refine (areRight_is HR1 HSt0.out.lb.ln HSt0.out.fr (HB.out V hbV) HSm.out (by rw [HFn.out];exact hfm)).mono ?_
 rintro e w1 ⟨rfl,hb1⟩
 have HSt1:=lH (HSt0.out.stays hb1)
 clear r0
 cases r
 ·have HZ:Hid (R=((lb,lq,(bu,se,nn),od),fr,0,1)):=lH (by rw [← HR.out];unfold cancelN;rw [HR1.out,if_neg (by decide)])
  have hrow:=HSt1.out.lb.row
  simp only at hrow
  have hpl:=HSt1.out.pl
  obtain ⟨z1,z2⟩:=HSt1.out.lt
  go_wp2
  refine bodyPost_ret (v:=.tuple #[.agg (cN lb lq (.slice a1 n1 c1) (.slice a2 n2 c2) nn (.slice a3 n3 c3)),.slice fa fn fc,.int .i64 0,.int .i64 1]) (ret_N4 Tryz.results127 _ _ rfl ?c1) rfl ⟨_,_,by rw [HZ.out],?c2⟩
  case c1=>exact row_set _ hpl
  case c2 =>
   rw [HZ.out]
   exact HSt1.out.ret
 have hrr:=HR1.out
 rw [Bool.and_eq_true] at hrr
 have hways:=cancelN_ways (l:=(lb,lq,(bu,se,nn),od)) (fr:=fr) (ow:=ow) (id:=id) hrr.1 hrr.2
 rw [HR.out] at hways
 simp only at hways
 obtain ⟨C,hC,hways⟩:=hways
 have HC:=lH hC
 have HWays:=lH hways
 clear hC hways hrr
 obtain ⟨_,_,r2,r3,r4,_⟩:=HSt1.out.lb.cells
 simp only at r2 r3 r4
 have z1:=HSt1.out.lt.1
 have hbw1:Below w.heap.size w w1:=HSt1.out.bel
 go_wp2_with fail
 refine (cancelB_is HC hm1 hm2 hm3 hm4 B _ w1 HSt1.out.lb.bl (HB.out w1 hbw1)).mono ?_
 rintro e w5 ⟨b1,k1,d1,b2,k2,d2,n',rfl,hnn',hb5,hlb1,hlb2⟩
 clear r2 r3 r4 z1
 obtain ⟨er,her⟩:∃ er,C.2.2=er:=⟨_,rfl⟩
 obtain ⟨oo,hoo⟩:∃ oo,C.2.1=oo:=⟨_,rfl⟩
 rw [her,hoo]
 have hoz:=cO_size oo
 have ho1:oneAll (.agg (cO oo))=true:=by cases oo<;>exact one5 _ _ _ _ _
 have HQ:=lH (show C.2.2=er∧C.2.1=oo∧C.1.2.2=n' from ⟨her,hoo,hnn'⟩)
 obtain ⟨M5,hM5⟩:∃ M,M=(w5.alloc (.cells #[.slice b1 k1 d1,.slice b2 k2 d2,.int .i64 n'] 57)).alloc (.cells (cO oo) 74):=⟨_,rfl⟩
 have hbM5:Below w5.heap.size w5 M5:=hM5 ▸ below2 w5 _ _
 have HSt5:=lH ((HSt1.out.stays hb5).stays hbM5)
 have hst5':=HSt1.out.stays hb5
 have hzM5:M5.heap.size=w5.heap.size+2:=by rw [hM5];simp
 have hbo:M5.heap[w5.heap.size+1]?=some (.cells (cO oo) 74 (0,0)):=by
  have:=heap_alloc_new (w5.alloc (.cells #[.slice b1 k1 d1,.slice b2 k2 d2,.int .i64 n'] 57)) (.cells (cO oo) 74)
  rw [World.size_alloc] at this
  rw [hM5];exact this
 have hbb:M5.heap[w5.heap.size]?=some (.cells #[.slice b1 k1 d1,.slice b2 k2 d2,.int .i64 n'] 57 (0,0)):=by
  rw [hM5,Below.heap_alloc _ _ _ (by simp)];exact heap_alloc_new w5 _
 have HBk:=lH (show M5.heap[w5.heap.size]?=some (.cells #[.slice b1 k1 d1,.slice b2 k2 d2,.int .i64 n'] 57 (0,0))∧LL B C.1.1 (.slice b1 k1 d1) M5∧LL B C.1.2.1 (.slice b2 k2 d2) M5 from ⟨hbb,Is.stays eL 106 hlb1 hbM5,Is.stays eL 106 hlb2 hbM5⟩)
 have HBo:=lH hbo
 have hz5:w.heap.size<w5.heap.size∧w.heap.size+1<w5.heap.size:=hst5'.lt
 have HZ5:=lH hz5.2
 have HM5:=lH hM5
 clear her hoo hnn' hlb1 hlb2 hM5 hst5' hz5 hbb hbo
 go_upto_region 4 with fail
 rw [← HM5.out]
 by_cases hne:er≠0
 ·have hde:(er != 0)=true:=by simpa using hne
  have HZ:Hid (R=((lb,lq,(bu,se,nn),od),fr,0,er)):=lH (by
   rcases HWays.out with ⟨_,h⟩ | ⟨o,h,_⟩
   ·rw [h,HQ.out.1]
   ·exact absurd (HQ.out.1.symm.trans h) hne)
  clear hne
  have hrow:=HSt5.out.lb.row
  simp only at hrow
  have hpl:=HSt5.out.pl
  obtain ⟨z1,z2⟩:=HSt5.out.lt
  go_wp2
  refine bodyPost_ret (v:=.tuple #[.agg (cN lb lq (.slice a1 n1 c1) (.slice a2 n2 c2) nn (.slice a3 n3 c3)),.slice fa fn fc,.int .i64 0,.int .i64 er]) (ret_N4 Tryz.results127 _ _ rfl ?c1) rfl ⟨_,_,by rw [HZ.out],?c2⟩
  case c1=>exact row_set _ hpl
  case c2 =>
   rw [HZ.out]
   exact HSt5.out.ret
 obtain rfl:0=er:=by have:er=0:=(by simpa using hne);exact this.symm
 obtain ⟨⟨x1,x2,x3,x4,x5⟩,ho,hok,hP⟩:∃ o,oo=some o∧okO o∧R=if giveE fr (ow,ndA lb lq o.2.2.1) (ndN o.2.2.1 o.2.2.2.1 o.2.2.2.2)=0 then ((lb,lq,C.1,od),giveL fr (ow,ndA lb lq o.2.2.1) (ndN o.2.2.1 o.2.2.2.1 o.2.2.2.2),ndN o.2.2.1 o.2.2.2.1 o.2.2.2.2,0) else ((lb,lq,(bu,se,nn),od),fr,0,giveE fr (ow,ndA lb lq o.2.2.1) (ndN o.2.2.1 o.2.2.2.1 o.2.2.2.2)):=by
  rcases HWays.out with ⟨h,_⟩ | ⟨o,_,h1,h2,h3⟩
  ·exact absurd HQ.out.1 h
  ·exact ⟨o,HQ.out.2.1.symm.trans h1,h2,h3⟩
 subst ho
 unfold okO at hok
 simp only at hok hP
 obtain ⟨n2',hn2⟩:∃ n2,ndN x3 x4 x5=n2:=⟨_,rfl⟩
 obtain ⟨ga,hga⟩:∃ ga,ndA lb lq x3=ga:=⟨_,rfl⟩
 have HNd:=lH (show ndN x3 x4 x5=n2'∧ndA lb lq x3=ga from ⟨hn2,hga⟩)
 rw [hn2,hga] at hP
 have HP:=lH hP
 have hF:∀ u,Below M5.heap.size M5 u→row u w.heap.size=cN lb lq (.slice a1 n1 c1) (.slice a2 n2 c2) nn (.slice a3 n3 c3)∧u.cell? ⟨w5.heap.size+1,2,none⟩=some (.int .i64 x3)∧u.cell? ⟨w5.heap.size+1,3,none⟩=some (.int .i64 x4)∧u.cell? ⟨w5.heap.size+1,4,none⟩=some (.int .i64 x5):=fun u hu=>by
  have hb:=(hu.block _ (by omega)).trans HBo.out
  have hr:=(HSt5.out.stays hu).lb.row
  refine ⟨hr,?_,?_,?_⟩<;>simp [World.cell?,hb,cO]
 have HFr:=lH (show fr.length≤1000000 from by rw [HFn.out];omega)
 clear hne hn2 hga hP hoz ho1
 go_upto_region 6 with fail
 go_cut [15,16] (fun p q u=>∃ pb:Nat,p=.pointer (some ⟨pb,0,none⟩)∧q=.int .i64 n2'∧M5.heap.size≤pb∧VB B (lb,lq,(bu,se,nn),od) (.slice a1 n1 c1) (.slice a2 n2 c2) (.slice a3 n3 c3) pb u∧Below M5.heap.size M5 u)
 case first =>
  as_aux_lemma =>
   refine Rh.rb [0,1,2,3,4,5,6,7,8,9,10,11] ?_
   repeat (first | (refine Rh.Steps.sk ?_;simp only [Act.put,sA,sB,sC]) | (refine Rh.Steps.pu (v:=?_) ?_ ?_;rotate_left;(intro w_ hS_;have hk_:=hF w_ hS_;go_simp<;>with_reducible rfl);simp only [Act.put,sA,sB,sC]) | (refine Rh.Steps.ca (v:=?_) (f:=?_) (args:=?_) ?_ ?_ ?_;rotate_left 3;(intro w_ hS_;have hk_:=hF w_ hS_;go_simp<;>first | with_reducible rfl | (constructor<;>with_reducible rfl));(intro w_ hS_;have hk_:=hF w_ hS_;first | (go_at_call 112;refine (need_any x3 x4 x5 _ ⟨hok.1,hok.2.1⟩ ⟨hok.2.2.1,hok.2.2.2⟩).mono ?_;first | (rintro e w_ ⟨rfl,rfl⟩;refine ⟨?_,Below.refl _ _⟩;with_reducible rfl) | (rintro e w_ ⟨rfl,hb_⟩;refine ⟨?_,hb_⟩;with_reducible rfl)));simp only [Act.put,sA,sB,sC]))
   refine Rh.Steps.forced (i:=9) (by kernel_rfl) ?_
   refine Rh.One.new (fun v u=>∃ pb:Nat,v=.pointer (some ⟨pb,0,none⟩)∧M5.heap.size≤pb∧u.heap[pb]?=some (.cells (nilN 0 0 0) 137 (0,0))∧Below M5.heap.size M5 u) (fun _ _ _ ⟨pb,e,h1,h2,h3⟩ k=>⟨pb,e,h1,(k.block pb (Array.getElem?_eq_some_iff.1 h2).1).trans h2,nx h3 k⟩) (by rfl) (by rfl) ?_ ?_
   ·intro w_ hS_ _
    exact ⟨_,_,by go_simp<;>rfl,nx hS_ (below1 w_ _),_,rfl,hS_.size,heap_alloc_new w_ (.cells (nilN 0 0 0) 137),nx hS_ (below1 w_ _)⟩
   rintro v9 u9 ⟨pb,rfl,hpb,-,-⟩
   simp only [Act.put,sA,sB,sC]
   refine Rh.Steps.forced (i:=10) (by kernel_rfl) ?_
   refine Rh.One.store (fun u=>VB B (lb,lq,(bu,se,nn),od) (.slice a1 n1 c1) (.slice a2 n2 c2) (.slice a3 n3 c3) pb u∧Below M5.heap.size M5 u) (fun _ _ h k=>⟨h.1.stays k,nx h.2 k⟩) (by rfl) (by rfl) ?_ ?_
   ·intro w_ hS_ hG_
    obtain ⟨pb',e,h1,h2,h3⟩:=hG_
    injection e with e
    injection e with e
    injection e with e
    subst e
    have hp:plain 6 w_ pb=true:=by simp [Rw.plain,h2]
    have hz:=(Array.getElem?_eq_some_iff.1 h2).1
    have hx:=(HSt5.out.stays hS_).lb
    refine ⟨w_.setRow pb (cN lb lq (.slice a1 n1 c1) (.slice a2 n2 c2) nn (.slice a3 n3 c3)),by go_simp,below_setRow hS_ h1 _,?_,below_setRow hS_ h1 _⟩
    have hlo:B.lo≤pb:=by have:=HSt5.out.lb.lo;have:=HSt5.out.lb.lt;omega
    exact VB.put (m:=(lb,lq,(bu,se,nn),od)) h2 hlo hx.l1 hx.l2 hx.l3
   repeat (first | (refine Rh.Steps.sk ?_;simp only [Act.put,sA,sB,sC]) | (refine Rh.Steps.pu (v:=?_) ?_ ?_;rotate_left;(intro w_ hS_;skip;go_simp<;>with_reducible rfl);simp only [Act.put,sA,sB,sC]))
   refine Rh.Steps.nil (by kernel_rfl) ?_
   rintro w9 _ hG9
   go_wp2_with fail
   go_meet
   exact ⟨pb,rfl,by rw [HNd.out.1],hpb,hG9.1,hG9.2⟩
 case rest =>
  obtain ⟨pb,rfl,rfl,hpb,hvb,hb6⟩:=hcut
  have HVB:=lH hvb
  have HSt6:=lH (HSt5.out.stays hb6)
  have HPb:=lH (show w.heap.size+1<pb by have:=HZ5.out;omega)
  obtain ⟨E2,hE2⟩:∃ E,giveE fr (ow,ga) n2'=E:=⟨_,rfl⟩
  have HE2:=lH hE2
  have r0:=hvb.row
  simp only at r0
  have z0:=hvb.lt
  obtain ⟨_,o2,_,_⟩:=hF wc hb6
  have zo:w5.heap.size+1<wc.heap.size:=by have:=hb6.size;omega
  clear hvb hE2
  go_wp2_with fail
  refine (lpurse_any lb lq nn _ _ _ _ _ _ _ _ _ ow x3 wc).mono ?_
  rintro e w6 ⟨rfl,hb7⟩
  rw [HNd.out.2]
  have HSt7:=lH (HSt6.out.stays hb7)
  clear r0 z0 o2 zo
  go_wp2_with fail
  refine (giveH_is HE2 HSt7.out.fr HFr.out).mono ?_
  rintro e w10 ⟨a11,n11,c11,rfl,hb10,hf2⟩
  have HSt10:=lH (HSt7.out.stays hb10)
  have hb610:=nx hb7 hb10
  have HVB10:=lH (HVB.out.stays hb610)
  by_cases hne2:E2≠0
  ·have hde2:(E2 != 0)=true:=by simpa using hne2
   have HZ:Hid (R=((lb,lq,(bu,se,nn),od),fr,0,E2)):=lH (by rw [HP.out,HE2.out,if_neg hne2])
   clear hne2
   have hrow:=HSt10.out.lb.row
   simp only at hrow
   have hpl:=HSt10.out.pl
   obtain ⟨z1,z2⟩:=HSt10.out.lt
   go_wp2
   refine bodyPost_ret (v:=.tuple #[.agg (cN lb lq (.slice a1 n1 c1) (.slice a2 n2 c2) nn (.slice a3 n3 c3)),.slice fa fn fc,.int .i64 0,.int .i64 E2]) (ret_N4 Tryz.results127 _ _ rfl ?c1) rfl ⟨_,_,by rw [HZ.out],?c2⟩
   case c1=>exact row_set _ hpl
   case c2 =>
    rw [HZ.out]
    exact HSt10.out.ret
  have hE20:E2=0:=by simpa using hne2
  have hde2:(E2 != 0)=false:=by simpa using hE20
  have HP6:Hid (R=((lb,lq,C.1,od),giveL fr (ow,ga) n2',n2',0)):=lH (by rw [HP.out,HE2.out,if_pos hE20])
  have hbM10:=nx hb6 hb610
  have HBk10:=lH (show w10.heap[w5.heap.size]?=some (.cells #[.slice b1 k1 d1,.slice b2 k2 d2,.int .i64 n'] 57 (0,0))∧LL B C.1.1 (.slice b1 k1 d1) w10∧LL B C.1.2.1 (.slice b2 k2 d2) w10 from ⟨(hbM10.block _ (Array.getElem?_eq_some_iff.1 HBk.out.1).1).trans HBk.out.1,Is.stays eL 106 HBk.out.2.1 hbM10,Is.stays eL 106 HBk.out.2.2 hbM10⟩)
  have hS0:∀ u,(u.heap[w5.heap.size]?=w10.heap[w5.heap.size]?∧u.heap[w.heap.size]?=w10.heap[w.heap.size]?∧w10.heap.size≤u.heap.size)→row u w5.heap.size=#[.slice b1 k1 d1,.slice b2 k2 d2,.int .i64 n']∧u.cell? ⟨w.heap.size,5,none⟩=some (.slice a3 n3 c3):=fun u hu=>by
   have hl:=HSt10.out.lb.bk
   refine ⟨?_,?_⟩
   ·unfold Rw.row;rw [hu.1,HBk10.out.1]
   ·simp [World.cell?,hu.2.1,hl]
  have HF2:=lH hf2
  have HVz:=lH HVB10.out.lt
  have hodm:od.length≤1000000:=by omega
  clear hne2 hE20 hf2 hF
  go_upto_region 10 with fail
  refine Rh.rg (fun u=>u.heap[w5.heap.size]?=w10.heap[w5.heap.size]?∧u.heap[w.heap.size]?=w10.heap[w.heap.size]?∧w10.heap.size≤u.heap.size) (fun u=>Below w10.heap.size w10 u) (fun u u' h k=>⟨(k.block _ (Nat.lt_of_lt_of_le (Array.getElem?_eq_some_iff.1 HBk10.out.1).1 h.2.2)).trans h.1,(k.block _ (Nat.lt_of_lt_of_le HSt10.out.lb.lt h.2.2)).trans h.2.1,Nat.le_trans h.2.2 k.size⟩) (fun _ _ h k=>nx h k) (⟨rfl,rfl,Nat.le_refl _⟩) ((Below.refl _ _).drew) [0,1,2,4,5,3,6,7,8,9] ?_
  repeat (first | (refine Rh.Steps.sk ?_;simp only [Act.put,sA,sB,sC]) | (refine Rh.Steps.pu (v:=?_) ?_ ?_;rotate_left;(intro w_ hS_;have hk_:=hS0 w_ hS_;go_simp<;>with_reducible rfl);simp only [Act.put,sA,sB,sC]))
  refine Rh.Steps.forced (i:=3) (by kernel_rfl) ?_
  refine Rh.One.call (fun v u=>HL B.lo od v u) (fun v _ _ h k=>hl_stays h k) (f:=?_) (args:=?_) (by rfl) (by rfl) ?_ ?_ ?_
  rotate_left 2
  ·intro w_ hS_ hG_;go_simp<;>first | with_reducible rfl | (constructor<;>with_reducible rfl)
  ·intro w_ hS_ hG_;(go_at_call 82;refine (cloneH_any (lo:=B.lo) od _ w_ (HSt10.out.stays hG_).lb.l3 (HB.out w_ (HSt10.out.stays hG_).bel).1 hodm).mono ?_;rintro e w' ⟨v,rfl,hb9,ho⟩;exact ⟨v,rfl,hb9,is_hl (ho.is (by decide) ⟨(HB.out w_ (HSt10.out.stays hG_).bel).1,fun _ h=>h.elim⟩)⟩)
  intro v1 u_ hv1
  simp only [Act.put,sA,sB,sC]
  obtain ⟨a12,c12,rfl⟩:=hl_slice hv1
  refine Rh.Steps.forced (i:=6) (by kernel_rfl) ?_
  refine Rh.One.store (fun u=>VB B (lb,lq,C.1,od) (.slice b1 k1 d1) (.slice b2 k2 d2) (.slice a3 n3 c3) pb u∧HL B.lo od (.slice a12 od.length c12) u∧HL B.lo (giveL fr (ow,ga) n2') (.slice a11 n11 c11) u∧u.heap[w.heap.size+1]?=some (.cells (nilN 0 0 0) 59 (0,0))∧Below w.heap.size w u) (fun _ _ h k=>⟨h.1.stays k,hl_stays h.2.1 k,hl_stays h.2.2.1 k,(k.block _ (Array.getElem?_eq_some_iff.1 h.2.2.2.1).1).trans h.2.2.2.1,h.2.2.2.2.trans (k.mono (by have:=(Array.getElem?_eq_some_iff.1 h.2.2.2.1).1;omega))⟩) (by rfl) (by rfl) ?_ ?_
  ·intro w_ hS_ hG_
   have hvb:=HVB10.out.stays hG_.1
   have hst:=HSt10.out.stays hG_.1
   obtain ⟨m0,m1,m2,m3,m4,m5⟩:=hvb.cells
   simp only at m0 m1 m2 m3 m4 m5
   have mf2:=hvb.free 2
   have mf3:=hvb.free 3
   have mf4:=hvb.free 4
   obtain ⟨k1',k2',k3',k4'⟩:=hvb.book (bk':=C.1) (n':=n') (Is.stays eL 106 HBk10.out.2.1 hG_.1) (Is.stays eL 106 HBk10.out.2.2 hG_.1) HQ.out.2.2
   have hkb:pb≠w5.heap.size∧pb≠w.heap.size∧pb≠w.heap.size+1:=by have:=HPb.out;have:=hzM5;omega
   have hlo:=hvb.lo
   refine ⟨((w_.setCell ⟨pb,2,none⟩ (.slice b1 k1 d1)).setCell ⟨pb,3,none⟩ (.slice b2 k2 d2)).setCell ⟨pb,4,none⟩ (.int .i64 n'),?_,⟨(k3' _ hkb.1.symm).trans hS_.1,(k3' _ hkb.2.1.symm).trans hS_.2.1,by simp;exact hS_.2.2⟩,k1',hl_keep hG_.2 (k2' _ (by decide) _ hlo),hl_keep (hl_stays HF2.out hG_.1) (k2' _ (by decide) _ hlo),(k3' _ hkb.2.2.symm).trans hst.g,hst.bel.trans (k4' _ (by have:=HPb.out;omega))⟩
   clear k1' k2' k3' k4' hvb hst hG_ hS_
   go_simp
  repeat (first | (refine Rh.Steps.sk ?_;simp only [Act.put,sA,sB,sC]) | (refine Rh.Steps.pu (v:=?_) ?_ ?_;rotate_left;(intro w_ hS_;skip;go_simp<;>with_reducible rfl);simp only [Act.put,sA,sB,sC]))
  refine Rh.Steps.forced (i:=9) (by kernel_rfl) ?_
  refine Rh.One.store (fun u=>VB B (lb,lq,C.1,od) (.slice b1 k1 d1) (.slice b2 k2 d2) (.slice a12 od.length c12) pb u∧HL B.lo (giveL fr (ow,ga) n2') (.slice a11 n11 c11) u∧u.heap[w.heap.size+1]?=some (.cells (nilN 0 0 0) 59 (0,0))∧Below w.heap.size w u) (fun _ _ h k=>⟨h.1.stays k,hl_stays h.2.1 k,(k.block _ (Array.getElem?_eq_some_iff.1 h.2.2.1).1).trans h.2.2.1,h.2.2.2.trans (k.mono (by have:=(Array.getElem?_eq_some_iff.1 h.2.2.1).1;omega))⟩) (by rfl) (by rfl) ?_ ?_
  ·intro w_ hS_ hG_
   obtain ⟨hvb,hcl,hfl,hgg,hbw⟩:=hG_
   obtain ⟨m0,m1,m2,m3,m4,m5⟩:=hvb.cells
   simp only at m0 m1 m2 m3 m4 m5
   have mf5:=hvb.free 5
   obtain ⟨k1',k2',k3',k4'⟩:=hvb.owed hcl
   have hkb:pb≠w5.heap.size∧pb≠w.heap.size∧pb≠w.heap.size+1:=by have:=HPb.out;have:=hzM5;omega
   have hlo:=hvb.lo
   refine ⟨w_.setCell ⟨pb,5,none⟩ (.slice a12 od.length c12),?_,⟨(k3' _ hkb.1.symm).trans hS_.1,(k3' _ hkb.2.1.symm).trans hS_.2.1,by simp;exact hS_.2.2⟩,k1',hl_keep hfl (k2' _ (by decide) _ hlo),(k3' _ hkb.2.2.symm).trans hgg,hbw.trans (k4' _ (by have:=HPb.out;omega))⟩
   clear k1' k2' k3' k4' hvb hS_
   go_simp
  refine Rh.Steps.nil (by kernel_rfl) ?_
  rintro w9 _ ⟨hvb,hfl,hgg,hbw⟩
  have hrow:=hvb.row
  have z9:=hvb.lt
  simp only at hrow
  rw [HQ.out.2.2] at hrow
  have hpl:plain 6 w9 (w.heap.size+1)=true:=by simp [Rw.plain,hgg]
  have zg:=(Array.getElem?_eq_some_iff.1 hgg).1
  have HVB9:=lH hvb
  have HFL9:=lH hfl
  have HG9:=lH hgg
  have HB9:=lH hbw
  clear hvb hfl hgg hbw hS0
  go_wp2
  refine bodyPost_ret (v:=.tuple #[.agg (cN lb lq (.slice b1 k1 d1) (.slice b2 k2 d2) n' (.slice a12 od.length c12)),.slice a11 n11 c11,.int .i64 n2',.int .i64 0]) (ret_N4 Tryz.results127 _ _ rfl ?c1) rfl ⟨_,_,by rw [HP6.out],?c2⟩
  case c1=>exact row_set _ hpl
  case c2 =>
   rw [HP6.out]
   have hlo:=HVB9.out.lo
   have hlo1:B.lo≤w.heap.size+1:=by have:=HSt5.out.lb.lo;omega
   have hkk:∀ A:Bs,A.lo≤w.heap.size+1→∀ ts,59 ∉ ts→Da.Keeps A ts w9 (w9.setRow (w.heap.size+1) (cN lb lq (.slice b1 k1 d1) (.slice b2 k2 d2) n' (.slice a12 od.length c12))):=fun A hA ts ht=>keeps_setRow _ HG9.out ht hA
   refine ⟨below_setRow HB9.out (Nat.le_succ _) _,⟨.slice b1 k1 d1,.slice b2 k2 d2,.slice a12 od.length c12,by rw [HQ.out.2.2],Is.keep eL 106 HVB9.out.l1 (hkk _ hlo1 _ (by decide)),Is.keep eL 106 HVB9.out.l2 (hkk _ hlo1 _ (by decide)),hl_keep HVB9.out.l3 (hkk (Bs.of B.lo) hlo1 _ (by decide))⟩,hl_keep HFL9.out (hkk (Bs.of B.lo) hlo1 _ (by decide))⟩
def PostCo (B:Bs) (c:Ln × List Hd × Int × Int × Int) (w:World) (e:Ending) (w':World):Prop :=
 ∃ v fv,e=.returned (.tuple #[v,fv,.int .i64 c.2.2.1,.int .i64 c.2.2.2.1,.int .i64 c.2.2.2.2])∧Below w.heap.size w w'∧LN B c.1 v w'∧HL B.lo c.2.1 fv w'
end Go.Proofs.YtjhocpcpkemcaaaGreat.La
namespace Go.Proofs.YtjhocpcpkemcaaaGreat.La
open Go.RowKit
open Rw
open Da
open Le
open Bk
open Ro
open Ac (Hd Pu HL pmay pmay_iff tot total giveE giveL takeE takeL)
theorem get_notOf {ow:Int} (q:Pu):∀ (l:List Hd),Ac.get (l.filter (notOf ow)) q=if q.1=ow then 0 else Ac.get l q
 | []=>by simp [Ac.get]
 | h :: r=>by
  have ih:=get_notOf (ow:=ow) q r
  by_cases e:h.1=ow
  ·have hf:notOf ow h=false:=by simp [notOf,e]
   rw [List.filter_cons,hf,if_neg (by decide),ih]
   by_cases k:q.1=ow
   ·rw [if_pos k,if_pos k]
   ·rw [if_neg k,if_neg k,Ac.get]
    rw [if_neg (fun x=>k (by rw [← x];exact e))]
  ·have hf:notOf ow h=true:=by simp [notOf,e]
   rw [List.filter_cons,hf,if_pos rfl,Ac.get,ih,Ac.get]
   by_cases k:Ac.key h=q
   ·rw [if_pos k,if_pos k,if_neg (fun x=>e (by rw [← x,← k];rfl))]
   ·rw [if_neg k,if_neg k]
theorem right_notOf {ow:Int} {l:List Hd} (h:Ac.Right l):Ac.Right (l.filter (notOf ow)) :=
 ⟨fun x hx=>h.1 x (List.mem_filter.1 hx).1,h.2.filter _⟩
theorem collect_notOf {lb lq ow:Int} {od:List Hd} (h:Ac.Right od) (ho:only lb lq od=true) (hne:lb≠lq) (hp:pmay (ow,lb)=true) (hq:pmay (ow,lq)=true) :
  takeL (takeL od (ow,lb) (Ac.get od (ow,lb))) (ow,lq) (Ac.get od (ow,lq))=od.filter (notOf ow):=by
 have p1:=Ac.get_pos (p:=(ow,lb)) h
 have p2:=Ac.get_pos (p:=(ow,lq)) h
 have e1:takeE od (ow,lb) (Ac.get od (ow,lb))=0:=(Ac.take_plays h hp).2 ⟨p1.1,Int.le_refl _⟩
 obtain ⟨r1,g1,_⟩:=Ac.take_done h hp e1
 have hq1:Ac.get (takeL od (ow,lb) (Ac.get od (ow,lb))) (ow,lq)=Ac.get od (ow,lq):=by
  rw [g1,if_neg (fun e=>hne (Prod.mk.inj e).2.symm)]
 have e2:takeE (takeL od (ow,lb) (Ac.get od (ow,lb))) (ow,lq) (Ac.get od (ow,lq))=0:=(Ac.take_plays r1 hq).2 ⟨p2.1,by rw [hq1];exact Int.le_refl _⟩
 obtain ⟨r2,g2,_⟩:=Ac.take_done r1 hq e2
 refine Ac.right_ext r2 (right_notOf h) fun u=>?_
 rw [g2,get_notOf,hq1]
 by_cases k2:u=(ow,lq)
 ·rw [if_pos k2,if_pos (by rw [k2])];omega
 ·rw [if_neg k2,g1]
  by_cases k1:u=(ow,lb)
  ·rw [if_pos k1,if_pos (by rw [k1])];omega
  ·rw [if_neg k1]
   by_cases k:u.1=ow
   ·rw [if_pos k]
    refine Ac.get_none fun x hx e=>?_
    unfold only at ho
    have:=List.all_eq_true.1 ho x hx
    rw [Bool.or_eq_true,beq_iff_eq,beq_iff_eq] at this
    rcases this with a | a
    ·exact k1 (by rw [← e];exact Prod.ext (by show x.1=ow;rw [← k,← e];rfl) a)
    ·exact k2 (by rw [← e];exact Prod.ext (by show x.1=ow;rw [← k,← e];rfl) a)
   ·rw [if_neg k]
theorem steps_two {P:Program} {ops:Array Oper} {Q:Exit→Act→World→Prop} {md:Region.Mode} {S G:World→Prop} {i j:Nat} {ord ord':List Nat} {listed:Array Bool} {a:Act}
  (hr:Region.ready md ops listed=[i,j]) (hl:ord'.length=ord.length) (h:Rh.One P md ops Q S i ord listed a G) (k:Rh.One P md ops Q S j ord' listed a G):Rh.Steps P md ops Q S (i :: ord) listed a G:=fun hs hQ sS st =>
 ⟨fun e=>absurd hr (by rw [e];exact fun x=>by cases x),fun x hx=>by
  rw [hr] at hx
  simp at hx
  rcases hx with rfl | rfl
  ·exact h hs hQ sS st
  ·have:=k hs hQ sS st
   rw [hl] at this
   exact this⟩
def AtB (T:TypeId) (cs:Array Value) (lo:Nat) (v:Value) (u:World):Prop:=∃ b,v=.pointer (some ⟨b,0,none⟩)∧lo≤b∧u.heap[b]?=some (.cells cs T (0,0))
theorem AtB.stays {T:TypeId} {cs:Array Value} {lo:Nat} {v:Value} {u u':World} (h:AtB T cs lo v u) (k:Below u.heap.size u u'):AtB T cs lo v u':=by
 obtain ⟨b,e,h1,h2⟩:=h
 exact ⟨b,e,h1,(k.block b (Array.getElem?_eq_some_iff.1 h2).1).trans h2⟩
theorem AtB.inv {T:TypeId} {cs:Array Value} {lo b:Nat} {u:World} (h:AtB T cs lo (.pointer (some ⟨b,0,none⟩)) u):lo≤b∧u.heap[b]?=some (.cells cs T (0,0)):=by
 obtain ⟨b',e,h1,h2⟩:=h
 injection e with e
 injection e with e
 injection e with e
 subst e
 exact ⟨h1,h2⟩
theorem AtB.made (T:TypeId) (cs:Array Value) {lo:Nat} {w:World} (h:lo≤w.heap.size):AtB T cs lo (.pointer (some ⟨w.heap.size,0,none⟩)) (w.alloc (.cells cs T)):=⟨_,rfl,h,heap_alloc_new w _⟩
structure St1 (B:Bs) (l:Ln) (x y o:Value) (ow:Int) (s:Nat) (fr:List Hd) (fv:Value) (w wr:World):Prop where
 lb:LB B l x y o s wr
 ob:wr.heap[s+1]?=some (.cells #[.int .i64 ow] 3 (0,0))
 g:wr.heap[s+1+1]?=some (.cells (nilN 0 0 0) 59 (0,0))
 fr:HL B.lo fr fv wr
 bel:Below s w wr
theorem St1.stays {B:Bs} {l:Ln} {x y o:Value} {ow:Int} {s:Nat} {fr:List Hd} {fv:Value} {w wr u:World} (h:St1 B l x y o ow s fr fv w wr) (hb:Below wr.heap.size wr u):St1 B l x y o ow s fr fv w u :=
 ⟨h.lb.stays hb,(hb.block _ (Array.getElem?_eq_some_iff.1 h.ob).1).trans h.ob,(hb.block _ (Array.getElem?_eq_some_iff.1 h.g).1).trans h.g,hl_stays h.fr hb,h.bel.trans (hb.mono (Nat.le_of_lt h.lb.lt))⟩
theorem St1.lt {B:Bs} {l:Ln} {x y o:Value} {ow:Int} {s:Nat} {fr:List Hd} {fv:Value} {w wr:World} (h:St1 B l x y o ow s fr fv w wr):s<wr.heap.size∧s+1<wr.heap.size∧s+1+1<wr.heap.size:=⟨h.lb.lt,(Array.getElem?_eq_some_iff.1 h.ob).1,(Array.getElem?_eq_some_iff.1 h.g).1⟩
theorem St1.pl {B:Bs} {l:Ln} {x y o:Value} {ow:Int} {s:Nat} {fr:List Hd} {fv:Value} {w wr:World} (h:St1 B l x y o ow s fr fv w wr):plain 6 wr (s+1+1)=true:=by simp [Rw.plain,h.g]
theorem St1.own {B:Bs} {l:Ln} {x y o:Value} {ow:Int} {s:Nat} {fr:List Hd} {fv:Value} {w wr:World} (h:St1 B l x y o ow s fr fv w wr):wr.cell? ⟨s+1,0,none⟩=some (.int .i64 ow):=by simp [World.cell?,h.ob]
theorem St1.ret {B:Bs} {l:Ln} {x y o:Value} {ow:Int} {s:Nat} {fr:List Hd} {fv:Value} {w wr:World} (h:St1 B l x y o ow s fr fv w wr) :
  Below s w (wr.setRow (s+1+1) (cN l.1 l.2.1 x y l.2.2.1.2.2 o))∧LN B l (.agg (cN l.1 l.2.1 x y l.2.2.1.2.2 o)) (wr.setRow (s+1+1) (cN l.1 l.2.1 x y l.2.2.1.2.2 o))∧HL B.lo fr fv (wr.setRow (s+1+1) (cN l.1 l.2.1 x y l.2.2.1.2.2 o)) :=
 ⟨below_setRow h.bel (by omega) _,(h.lb.other (by omega) (by have:=h.lb.lo;omega) h.g _).ln,hl_keep h.fr (keeps_setRow _ h.g (by decide) (by have:=h.lb.lo;show B.lo≤s+1+1;omega))⟩
theorem lpurse_is {lb lq nn g:Int} {s:Int} (hg:ndA lb lq s=g) (a1 a2 a3:Option Addr) (n1 c1 n2 c2 n3 c3:Nat) (ow:Int) (w:World) :
  Calls Tryz.prog 111 #[.agg (cN lb lq (.slice a1 n1 c1) (.slice a2 n2 c2) nn (.slice a3 n3 c3)),.int .i64 ow,.int .i64 s] w fun e w'=>e=.returned (.agg #[.int .i64 ow,.int .i64 g])∧Below w.heap.size w w':=by
 rw [← hg];exact lpurse_any lb lq nn a1 a2 a3 n1 c1 n2 c2 n3 c3 ow s w
theorem getH_is {lo:Nat} {l:List Hd} {v:Value} {p q x:Int} {w:World} (hx:Hid (Ac.get l (p,q)=x)) (h:HL lo l v w) (hm:l.length≤1000000) :
  Calls Tryz.prog 24 #[v,.agg #[.int .i64 p,.int .i64 q]] w fun e w'=>e=.returned (.int .i64 x)∧Below w.heap.size w w':=by
 rw [← hx.out];exact Ac.get_any l v p q w h hm
section
variable (ρ:Operand→Value) (dst:Option Tmp) (ty:TypeId) (pos:String) (after:Array Edge) (guard:Option (Nat × Bool)) (w:World)
theorem storeP (p x:Operand) (h:plainAt 2 w (ρ p)=true) (hs:(ρ x).cells.size=2) (h1:oneAll (ρ x)=true) (ha:ρ x=.agg (ρ x).cells):(execOp ρ { dst,op:=.store 50 p x,type:=ty,pos,after,guard }).run Tryz.prog w=.ok .skip (putRow w (ρ p) (ρ x).cells) :=
 exec_store (n:=1) ρ dst ty pos after guard w (by kernel_rfl) p x h hs h1 ha
theorem loadP (x:Operand) (h:(rowOf w (ρ x)).size=2):(execOp ρ { dst,op:=.load 50 x,type:=ty,pos,after,guard }).run Tryz.prog w=.ok (.value (.agg (rowOf w (ρ x)))) w :=
 exec_load (n:=1) ρ dst ty pos after guard w Tryz.underlying50 rfl (by kernel_rfl) x h
end
theorem one2 (x y:Int):oneAll (.agg #[.int .i64 x,.int .i64 y])=true:=by simp [oneAll,Value.cells,Value.oneCell']
theorem size2 (a b:Value):(#[a,b]:Array Value).size=2:=rfl
end Go.Proofs.YtjhocpcpkemcaaaGreat.La
