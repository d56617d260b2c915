/- The document's own of layer 12: traded. -/
import Derived.Test.YtjhocpcpkemcaaaGreatQeZZ
import Derived.Test.YtjhocpcpkemcaaaGreatQeAY
import Derived.Test.YtjhocpcpkemcaaaGreatQeBI
import Derived.Test.YtjhocpcpkemcaaaGreatQeBN
import Derived.Test.YtjhocpcpkemcaaaGreatQeBM
import Derived.Test.YtjhocpcpkemcaaaGreatQeBL
import Derived.Deep.MidRow
import Derived.RegionTactic
set_option linter.unusedVariables false
set_option maxRecDepth 16000
set_option maxHeartbeats 32000000
namespace Go.Proofs.YtjhocpcpkemcaaaGreat.Ex
open Go.RowKit
open Rw
open Da
open Bk (Fl FL eFl sumQ)
open Se (ret_int)
theorem sumQ_snoc (l:List Fl) (f:Fl):sumQ (l++[f])=sumQ l+f.2.2.2.1:=by simp [sumQ]
theorem sumQ_bd {l:List Fl} (h:∀ f∈l,0≤f.2.2.2.1∧f.2.2.2.1≤1048576):0≤sumQ l∧sumQ l≤l.length*1048576:=by
 induction l with
 | nil=>simp [sumQ]
 | cons f r ih =>
  have h1:=h f List.mem_cons_self
  have h2:=ih fun x hx=>h x (List.mem_cons_of_mem _ hx)
  have e:sumQ (f :: r)=f.2.2.2.1+sumQ r:=by simp [sumQ]
  rw [e,List.length_cons]
  push_cast
  omega
theorem atFl {B:Bs} {l:List Fl} {b off:Nat} {w:World} (h:Lies eFl 159 B l b off w) (i:Nat) (hi:i<l.length) :
  w.cell? ⟨b,off+i*5,none⟩=some (.int .i64 l[i].1)∧w.cell? ⟨b,off+i*5+1,none⟩=some (.int .i64 l[i].2.1)∧w.cell? ⟨b,off+i*5+2,none⟩=some (.int .i64 l[i].2.2.1)∧w.cell? ⟨b,off+i*5+3,none⟩=some (.int .i64 l[i].2.2.2.1)∧w.cell? ⟨b,off+i*5+4,none⟩=some (.bool l[i].2.2.2.2):=by
 obtain ⟨cs,rfl,hu⟩:=h.at i hi
 exact ⟨hu 0 _ rfl,hu 1 _ rfl,hu 2 _ rfl,hu 3 _ rfl,hu 4 _ rfl⟩
end Go.Proofs.YtjhocpcpkemcaaaGreat.Ex
namespace Go.Proofs.YtjhocpcpkemcaaaGreat.Ex
open Go.RowKit
open Rw
open Da
open Le (LL eL Lv flat low_setCell keeps_setCell)
open La (Ln LN LB cN)
open Ac (Hd Pu HL giveE giveL takeE takeL)
open Bk (Fl FL eFl sumQ)
open Se (ret_int)
theorem quantity_any (B:Bs) (l:List Fl) (v:Value) (w:World) (h:FL B l v w) (hm:l.length≤1000000) (hq:∀ f∈l,0≤f.2.2.2.1∧f.2.2.2.1≤1048576) :
  Calls Tryz.prog 126 #[v] w fun e w'=>e=.returned (.int .i64 (sumQ l))∧Below w.heap.size w w':=by
 obtain ⟨a,cp,rfl,hel⟩:=h
 obtain ⟨n,hn⟩:∃ n,n=l.length:=⟨_,rfl⟩
 rw [← hn] at hm ⊢
 have HN:=lH hn
 have HE:=lH hel
 have HQ:=lH hq
 clear hn hel hq
 go_enter Tryz.func126,Tryz.ntmps126
 go_wp2
 go_loopw [3,8] (fun t i wr=>∃ k:Nat,k≤n∧i=.int .i64 k∧t=.int .i64 (sumQ (l.take k))∧Below w.heap.size w wr) (fun _ i _=>n - (intOf i).toNat)
 case atStart=>exact ⟨0,Nat.zero_le _,rfl,rfl,Below.refl _ _⟩
 case round =>
  obtain ⟨k,hk,rfl,rfl,hb⟩:=hrel
  by_cases hlt:k<n
  ·have hlt2:(k:Int)<n:=by omega
   have hkl:k<l.length:=by rw [← HN.out];exact hlt
   rcases HE.out with ⟨e,_⟩ | ⟨b,off,rfl,hat⟩
   ·rw [e] at hkl;cases hkl
   ·have hat3:=Lies.keep eFl 159 hat (Keeps.of_below hb)
    obtain ⟨c0,c1,c2,c3,c4⟩:=atFl hat3 k hkl
    have hb3:=hat3.1
    have hq:=HQ.out _ (List.getElem_mem hkl)
    have hs:=sumQ_bd (l:=l.take k) fun f hf=>HQ.out f (List.mem_of_mem_take hf)
    have HT:=lH (show sumQ (l.take (k+1))=sumQ (l.take k)+l[k].2.2.2.1 by rw [Da.take_snoc hkl,sumQ_snoc])
    obtain ⟨⟨f1,f2,f3,f4,f5⟩,hf⟩:∃ f,l[k]=f:=⟨_,rfl⟩
    rw [hf] at c0 c1 c2 c3 c4 hq HT
    simp only at c0 c1 c2 c3 c4 hq HT
    obtain ⟨S,hS⟩:∃ S,sumQ (l.take k)=S:=⟨_,rfl⟩
    rw [hS] at hs HT ⊢
    have hle:(l.take k).length≤k:=List.length_take_le _ _
    have hw:wrap64 (S+f4)=S+f4:=IntWalk.wrap64_in _ (by omega)
    clear hat hat3 hf hS
    go_wp2
    go_roundw
    case rel=>exact ⟨k+1,by omega,by go_num,by rw [HT.out],nx hb (below1 _ _)⟩
    case measure=>simp [intOf];omega
  ·obtain rfl:k=n:=by omega
   have HZ:Hid (sumQ (l.take k)=sumQ l):=lH (by rw [HN.out,List.take_length])
   go_wp2
   go_ret
   exact ⟨ret_int HZ.out,hb⟩
def TupH (n:Nat) (l:List Hd) (k:Int) (v:Value) (u:World):Prop:=∃ z,v=.tuple #[z,.int .i64 k]∧HL n l z u
theorem TupH.stays {n:Nat} {l:List Hd} {k:Int} {v:Value} {u u':World} (h:TupH n l k v u) (b:Below u.heap.size u u'):TupH n l k v u':=by obtain ⟨z,e,h⟩:=h;exact ⟨z,e,La.hl_stays h b⟩
theorem TupH.inv {n:Nat} {l:List Hd} {k:Int} {z y:Value} {u:World} (h:TupH n l k (.tuple #[z,y]) u):HL n l z u:=by
 obtain ⟨z',e,h⟩:=h
 simp only [Value.tuple.injEq,Array.mk.injEq,List.cons.injEq,and_true] at e
 rw [e.1];exact h
theorem TupH.three {n:Nat} {l:List Hd} {k:Int} {v:Value} {u:World} (h:TupH n l k v u):∃ a m c,v=.tuple #[.slice a m c,.int .i64 k]:=by
 obtain ⟨z,rfl,h⟩:=h
 obtain ⟨a,c,rfl⟩:=La.hl_slice h
 exact ⟨a,_,c,rfl⟩
def PostD (n b:Nat) (l s:Value) (R:Xc × Int) (w:World) (e:Ending) (w':World):Prop:=∃ f i o,e=.returned (.int .i64 R.2)∧Alt (fun k=>k=b) w w'∧XB n R.1 f l s i o b w'
theorem XB.free3 {n:Nat} {x:Xc} {f l s i o:Value} {b:Nat} {w:World} (h:XB n x f l s i o b w):∃ a1 c1 a2 c2 a3 c3,f=.slice a1 x.free.length c1∧i=.slice a2 x.inn.length c2∧o=.slice a3 x.out.length c3:=by
 obtain ⟨a1,c1,a2,c2,a3,c3,a4,c4,a5,c5,e1,e2,e3,e4,e5⟩:=h.d.open'
 exact ⟨a1,c1,a4,c4,a5,c5,e1,e4,e5⟩
theorem alt_set {b j:Nat} {v:Value} {w u:World} (h:Alt (fun k=>k=b) w u):Alt (fun k=>k=b) w (u.setCell ⟨b,j,none⟩ v) :=
 ⟨h.os,h.tape,h.output,by rw [World.size_setCell];exact h.size,fun k hk hx=>(Below.heap_setCell u ⟨b,j,none⟩ v k hx).trans (h.block k hk hx)⟩
theorem dep_any (n b:Nat) (x:Xc) (f l s i o:Value) (a t q:Int) (w:World) (h:XB n x f l s i o b w) (hs:SmX x) :
  Calls Tryz.prog 123 #[.pointer (some ⟨b,0,none⟩),.agg #[.int .i64 a,.int .i64 t],.int .i64 q] w (PostD n b l s (depR x (a,t) q) w):=by
 obtain ⟨a1,c1,a2,c2,a3,c3,e1,e2,e3⟩:=h.free3
 obtain ⟨n1,m1⟩:∃ k,x.free.length=k:=⟨_,rfl⟩
 obtain ⟨n2,m2⟩:∃ k,x.inn.length=k:=⟨_,rfl⟩
 obtain ⟨n3,m3⟩:∃ k,x.out.length=k:=⟨_,rfl⟩
 rw [m1] at e1
 rw [m2] at e2
 rw [m3] at e3
 subst e1 e2 e3
 obtain ⟨V,hV⟩:∃ V,V=w.alloc (.cells #[.int .i64 a,.int .i64 t] 50):=⟨_,rfl⟩
 have hbV:Below w.heap.size w V:=hV ▸ below1 w _
 have hpb:V.heap[w.heap.size]?=some (.cells #[.int .i64 a,.int .i64 t] 50 (0,0)):=by rw [hV];exact heap_alloc_new _ _
 have hF:∀ u,Below V.heap.size V u→u.cell? ⟨b,3,none⟩=some (.slice a2 n2 c2)∧u.cell? ⟨b,0,none⟩=some (.slice a1 n1 c1)∧u.cell? ⟨w.heap.size,0,none⟩=some (.int .i64 a)∧u.cell? ⟨w.heap.size,1,none⟩=some (.int .i64 t):=fun u hu=>by
  have hb:=(h.stays (nx hbV hu)).bk
  have hp:=(hu.block _ (lt_of_some hpb)).trans hpb
  exact ⟨cell_is hb,cell_is hb,cell_is hp,cell_is hp⟩
 obtain ⟨y1,hy1⟩:∃ k,giveE x.inn (a,t) q=k:=⟨_,rfl⟩
 obtain ⟨y2,hy2⟩:∃ k,giveE x.free (a,t) q=k:=⟨_,rfl⟩
 have HE1:=lH hy1
 have HE2:=lH hy2
 have HH:=lH h
 have HS:=lH hs
 have HR:=lH (show (y1≠0→depR x (a,t) q=(x,y1))∧(y1=0→y2≠0→depR x (a,t) q=(x,y2))∧(y1=0→y2=0→depR x (a,t) q=({ x with inn:=giveL x.inn (a,t) q,free:=giveL x.free (a,t) q },0)) from by
  unfold depR;rw [hy1,hy2]
  exact ⟨fun h=>if_neg h,fun h k=>by rw [if_pos h,if_neg k],fun h k=>by rw [if_pos h,if_pos k]⟩)
 have HB:=lH hbV
 have HV:=lH hV
 clear h hs hy1 hy2 hV hpb hbV m1 m2 m3
 go_enter Tryz.func123,Tryz.ntmps123
 go_upto_region 1 with fail
 rw [← HV.out]
 refine Rh.rb [0,1,2,3,4,5,6,7,8,9,10,11] ?_
 repeat (first | (refine Rh.Steps.sk ?_;simp only [Act.put,sA,sB,sC]) | (refine Rh.Steps.pu (v:=?_) ?_ ?_;rotate_left;(intro w_ hS_;have hk_:=hF w_ hS_;go_simp<;>with_reducible rfl);simp only [Act.put,sA,sB,sC]))
 refine Rh.Steps.forced (i:=6) (by kernel_rfl) ?_
 refine Rh.One.call (TupH n (giveL x.inn (a,t) q) y1) (fun _ _ _ h k=>TupH.stays h k) (f:=?_) (args:=?_) (by rfl) (by rfl) ?_ ?_ ?_
 rotate_left 2
 ·intro w_ hS_ hG_;go_simp<;>first | with_reducible rfl | (constructor<;>with_reducible rfl)
 ·intro w_ hS_ hG_;(go_at_call 148;refine (La.giveH_is HE1.out (HH.out.stays (nx HB.out hG_)).d.inn (by have:=HS.out.inn;omega)).mono ?_;rintro e w' ⟨a,m,c,rfl,hb,hl⟩;exact ⟨_,rfl,hb,_,rfl,hl⟩)
 intro v1 u_ hv1
 simp only [Act.put,sA,sB,sC]
 obtain ⟨b1,o1,p1,rfl⟩:=hv1.three
 repeat (first | (refine Rh.Steps.sk ?_;simp only [Act.put,sA,sB,sC]) | (refine Rh.Steps.pu (v:=?_) ?_ ?_;rotate_left;(intro w_ hS_;have hk_:=hF w_ hS_;go_simp<;>with_reducible rfl);simp only [Act.put,sA,sB,sC]))
 refine Rh.Steps.nil (by kernel_rfl) ?_
 intro w1 hb1 hG1
 have HG1:=lH hG1.2.inv
 clear hG1
 by_cases h1:y1=0
 ·have HR2:=lH (HR.out.2.1 h1)
  have HR3:=lH (HR.out.2.2 h1)
  clear HR
  subst h1
  go_wp2_with fail
  refine Rh.rg (fun u=>Below V.heap.size V u) (fun u=>Below w1.heap.size w1 u) (fun _ _ h k=>nx h k) (fun _ _ h k=>nx h k) (hb1.drew) ((Below.refl _ _).drew) [0,1,2,3,4,5,6,7,8,9,10,11] ?_
  repeat (first | (refine Rh.Steps.sk ?_;simp only [Act.put,sA,sB,sC]) | (refine Rh.Steps.pu (v:=?_) ?_ ?_;rotate_left;(intro w_ hS_;have hk_:=hF w_ hS_;go_simp<;>with_reducible rfl);simp only [Act.put,sA,sB,sC]))
  refine Rh.Steps.forced (i:=6) (by kernel_rfl) ?_
  refine Rh.One.call (TupH n (giveL x.free (a,t) q) y2) (fun _ _ _ h k=>TupH.stays h k) (f:=?_) (args:=?_) (by rfl) (by rfl) ?_ ?_ ?_
  rotate_left 2
  ·intro w_ hS_ hG_;go_simp<;>first | with_reducible rfl | (constructor<;>with_reducible rfl)
  ·intro w_ hS_ hG_;(go_at_call 148;refine (La.giveH_is HE2.out (HH.out.stays (nx HB.out hS_)).d.free (by have:=HS.out.free;omega)).mono ?_;rintro e w' ⟨a,m,c,rfl,hb,hl⟩;exact ⟨_,rfl,hb,_,rfl,hl⟩)
  intro v2 u_ hv2
  simp only [Act.put,sA,sB,sC]
  obtain ⟨b2,o2,p2,rfl⟩:=hv2.three
  repeat (first | (refine Rh.Steps.sk ?_;simp only [Act.put,sA,sB,sC]) | (refine Rh.Steps.pu (v:=?_) ?_ ?_;rotate_left;(intro w_ hS_;have hk_:=hF w_ hS_;go_simp<;>with_reducible rfl);simp only [Act.put,sA,sB,sC]))
  refine Rh.Steps.nil (by kernel_rfl) ?_
  intro w2 hb2 hG2
  have HG2:=lH hG2.2.inv
  have hg1:=La.hl_stays HG1.out hG2.1
  clear hG2
  by_cases h2:y2=0
  ·have HQ:=lH (HR3.out h2)
   subst h2
   have xb:=HH.out.stays (nx HB.out hb2)
   obtain ⟨p0,p1',p2',p3,p4⟩:=xb.cells
   have t1:=xb.thawed 3
   have t2:=xb.thawed 0
   have xX:=xb.set (y:=({ x with inn:=giveL x.inn (a,t) q }:Xc)) 3 (.slice b1 o1 p1) rfl ⟨xb.d.free,xb.d.lanes,xb.d.sess,hg1,xb.d.out,xb.d.cap⟩
   have hk:Da.Keeps (Bs.of n) xts w2 (w2.setCell ⟨b,3,none⟩ (.slice b1 o1 p1)):=keeps_setCell 3 _ xb.bk (by decide) xb.lo
   have g2:HL n (giveL x.free (a,t) q) (.slice b2 o2 p2) (w2.setCell ⟨b,3,none⟩ (.slice b1 o1 p1)):=La.hl_keep HG2.out (hk.less (by decide))
   have xY:=xX.set (y:=({ x with inn:=giveL x.inn (a,t) q,free:=giveL x.free (a,t) q }:Xc)) 0 (.slice b2 o2 p2) rfl ⟨g2,xX.d.lanes,xX.d.sess,xX.d.inn,xX.d.out,xX.d.cap⟩
   have HF:=lH (And.intro (alt_set (j:=0) (v:=.slice b2 o2 p2) (alt_set (j:=3) (v:=.slice b1 o1 p1) (Alt.of_below (X:=fun k=>k=b) (nx HB.out hb2)))) xY)
   clear xb xX xY hk g2 hg1
   go_wp2
   go_ret
   exact ⟨_,_,_,by rw [HQ.out]<;>rfl,HF.out.1,by rw [HQ.out];exact HF.out.2⟩
  ·have HQ:=lH (HR2.out h2)
   have hne:(y2 != 0)=true:=by simpa using h2
   clear h2 hg1
   have HF:=lH (And.intro (Alt.of_below (X:=fun k=>k=b) (nx HB.out hb2)) (HH.out.stays (nx HB.out hb2)))
   go_wp2
   go_ret
   exact ⟨_,_,_,by rw [HQ.out]<;>rfl,HF.out.1,by rw [HQ.out];exact HF.out.2⟩
 ·have HQ:=lH (HR.out.1 h1)
  have hne:(y1 != 0)=true:=by simpa using h1
  clear h1
  have HF:=lH (And.intro (Alt.of_below (X:=fun k=>k=b) (nx HB.out hb1)) (HH.out.stays (nx HB.out hb1)))
  go_wp2
  go_ret
  exact ⟨_,_,_,by rw [HQ.out]<;>rfl,HF.out.1,by rw [HQ.out];exact HF.out.2⟩
theorem wdr_any (n b:Nat) (x:Xc) (f l s i o:Value) (a t q:Int) (w:World) (h:XB n x f l s i o b w) (hs:SmX x) :
  Calls Tryz.prog 124 #[.pointer (some ⟨b,0,none⟩),.agg #[.int .i64 a,.int .i64 t],.int .i64 q] w (PostD n b l s (wdrR x (a,t) q) w):=by
 obtain ⟨a1,c1,a2,c2,a3,c3,e1,e2,e3⟩:=h.free3
 obtain ⟨n1,m1⟩:∃ k,x.free.length=k:=⟨_,rfl⟩
 obtain ⟨n2,m2⟩:∃ k,x.inn.length=k:=⟨_,rfl⟩
 obtain ⟨n3,m3⟩:∃ k,x.out.length=k:=⟨_,rfl⟩
 rw [m1] at e1
 rw [m2] at e2
 rw [m3] at e3
 subst e1 e2 e3
 obtain ⟨V,hV⟩:∃ V,V=w.alloc (.cells #[.int .i64 a,.int .i64 t] 50):=⟨_,rfl⟩
 have hbV:Below w.heap.size w V:=hV ▸ below1 w _
 have hpb:V.heap[w.heap.size]?=some (.cells #[.int .i64 a,.int .i64 t] 50 (0,0)):=by rw [hV];exact heap_alloc_new _ _
 have hF:∀ u,Below V.heap.size V u→u.cell? ⟨b,0,none⟩=some (.slice a1 n1 c1)∧u.cell? ⟨b,4,none⟩=some (.slice a3 n3 c3)∧u.cell? ⟨w.heap.size,0,none⟩=some (.int .i64 a)∧u.cell? ⟨w.heap.size,1,none⟩=some (.int .i64 t):=fun u hu=>by
  have hb:=(h.stays (nx hbV hu)).bk
  have hp:=(hu.block _ (lt_of_some hpb)).trans hpb
  exact ⟨cell_is hb,cell_is hb,cell_is hp,cell_is hp⟩
 obtain ⟨y1,hy1⟩:∃ k,takeE x.free (a,t) q=k:=⟨_,rfl⟩
 obtain ⟨y2,hy2⟩:∃ k,giveE x.out (a,t) q=k:=⟨_,rfl⟩
 have HE1:=lH hy1
 have HE2:=lH hy2
 have HH:=lH h
 have HS:=lH hs
 have HR:=lH (show (y1≠0→wdrR x (a,t) q=(x,y1))∧(y1=0→y2≠0→wdrR x (a,t) q=(x,y2))∧(y1=0→y2=0→wdrR x (a,t) q=({ x with out:=giveL x.out (a,t) q,free:=takeL x.free (a,t) q },0)) from by
  unfold wdrR;rw [hy1,hy2]
  exact ⟨fun h=>if_neg h,fun h k=>by rw [if_pos h,if_neg k],fun h k=>by rw [if_pos h,if_pos k]⟩)
 have HB:=lH hbV
 have HV:=lH hV
 clear h hs hy1 hy2 hV hpb hbV m1 m2 m3
 go_enter Tryz.func124,Tryz.ntmps124
 go_upto_region 1 with fail
 rw [← HV.out]
 refine Rh.rb [0,1,2,3,4,5,6,7,8,9,10,11] ?_
 repeat (first | (refine Rh.Steps.sk ?_;simp only [Act.put,sA,sB,sC]) | (refine Rh.Steps.pu (v:=?_) ?_ ?_;rotate_left;(intro w_ hS_;have hk_:=hF w_ hS_;go_simp<;>with_reducible rfl);simp only [Act.put,sA,sB,sC]))
 refine Rh.Steps.forced (i:=6) (by kernel_rfl) ?_
 refine Rh.One.call (TupH n (takeL x.free (a,t) q) y1) (fun _ _ _ h k=>TupH.stays h k) (f:=?_) (args:=?_) (by rfl) (by rfl) ?_ ?_ ?_
 rotate_left 2
 ·intro w_ hS_ hG_;go_simp<;>first | with_reducible rfl | (constructor<;>with_reducible rfl)
 ·intro w_ hS_ hG_;(go_at_call 149;refine (La.takeH_is HE1.out (HH.out.stays (nx HB.out hG_)).d.free (by have:=HS.out.free;omega)).mono ?_;rintro e w' ⟨a,m,c,rfl,hb,hl⟩;exact ⟨_,rfl,hb,_,rfl,hl⟩)
 intro v1 u_ hv1
 simp only [Act.put,sA,sB,sC]
 obtain ⟨b1,o1,p1,rfl⟩:=hv1.three
 repeat (first | (refine Rh.Steps.sk ?_;simp only [Act.put,sA,sB,sC]) | (refine Rh.Steps.pu (v:=?_) ?_ ?_;rotate_left;(intro w_ hS_;have hk_:=hF w_ hS_;go_simp<;>with_reducible rfl);simp only [Act.put,sA,sB,sC]))
 refine Rh.Steps.nil (by kernel_rfl) ?_
 intro w1 hb1 hG1
 have HG1:=lH hG1.2.inv
 clear hG1
 by_cases h1:y1=0
 ·have HR2:=lH (HR.out.2.1 h1)
  have HR3:=lH (HR.out.2.2 h1)
  clear HR
  subst h1
  go_wp2_with fail
  refine Rh.rg (fun u=>Below V.heap.size V u) (fun u=>Below w1.heap.size w1 u) (fun _ _ h k=>nx h k) (fun _ _ h k=>nx h k) (hb1.drew) ((Below.refl _ _).drew) [0,1,2,3,4,5,6,7,8,9,10,11] ?_
  repeat (first | (refine Rh.Steps.sk ?_;simp only [Act.put,sA,sB,sC]) | (refine Rh.Steps.pu (v:=?_) ?_ ?_;rotate_left;(intro w_ hS_;have hk_:=hF w_ hS_;go_simp<;>with_reducible rfl);simp only [Act.put,sA,sB,sC]))
  refine Rh.Steps.forced (i:=6) (by kernel_rfl) ?_
  refine Rh.One.call (TupH n (giveL x.out (a,t) q) y2) (fun _ _ _ h k=>TupH.stays h k) (f:=?_) (args:=?_) (by rfl) (by rfl) ?_ ?_ ?_
  rotate_left 2
  ·intro w_ hS_ hG_;go_simp<;>first | with_reducible rfl | (constructor<;>with_reducible rfl)
  ·intro w_ hS_ hG_;(go_at_call 148;refine (La.giveH_is HE2.out (HH.out.stays (nx HB.out hS_)).d.out (by have:=HS.out.out;omega)).mono ?_;rintro e w' ⟨a,m,c,rfl,hb,hl⟩;exact ⟨_,rfl,hb,_,rfl,hl⟩)
  intro v2 u_ hv2
  simp only [Act.put,sA,sB,sC]
  obtain ⟨b2,o2,p2,rfl⟩:=hv2.three
  repeat (first | (refine Rh.Steps.sk ?_;simp only [Act.put,sA,sB,sC]) | (refine Rh.Steps.pu (v:=?_) ?_ ?_;rotate_left;(intro w_ hS_;have hk_:=hF w_ hS_;go_simp<;>with_reducible rfl);simp only [Act.put,sA,sB,sC]))
  refine Rh.Steps.nil (by kernel_rfl) ?_
  intro w2 hb2 hG2
  have HG2:=lH hG2.2.inv
  have hg1:=La.hl_stays HG1.out hG2.1
  clear hG2
  by_cases h2:y2=0
  ·have HQ:=lH (HR3.out h2)
   subst h2
   have xb:=HH.out.stays (nx HB.out hb2)
   obtain ⟨p0,p1',p2',p3,p4⟩:=xb.cells
   have t1:=xb.thawed 0
   have t2:=xb.thawed 4
   have xX:=xb.set (y:=({ x with free:=takeL x.free (a,t) q }:Xc)) 0 (.slice b1 o1 p1) rfl ⟨hg1,xb.d.lanes,xb.d.sess,xb.d.inn,xb.d.out,xb.d.cap⟩
   have hk:Da.Keeps (Bs.of n) xts w2 (w2.setCell ⟨b,0,none⟩ (.slice b1 o1 p1)):=keeps_setCell 0 _ xb.bk (by decide) xb.lo
   have g2:HL n (giveL x.out (a,t) q) (.slice b2 o2 p2) (w2.setCell ⟨b,0,none⟩ (.slice b1 o1 p1)):=La.hl_keep HG2.out (hk.less (by decide))
   have xY:=xX.set (y:=({ x with out:=giveL x.out (a,t) q,free:=takeL x.free (a,t) q }:Xc)) 4 (.slice b2 o2 p2) rfl ⟨xX.d.free,xX.d.lanes,xX.d.sess,xX.d.inn,g2,xX.d.cap⟩
   have HF:=lH (And.intro (alt_set (j:=4) (v:=.slice b2 o2 p2) (alt_set (j:=0) (v:=.slice b1 o1 p1) (Alt.of_below (X:=fun k=>k=b) (nx HB.out hb2)))) xY)
   clear xb xX xY hk g2 hg1
   go_wp2
   go_ret
   exact ⟨_,_,_,by rw [HQ.out]<;>rfl,HF.out.1,by rw [HQ.out];exact HF.out.2⟩
  ·have HQ:=lH (HR2.out h2)
   have hne:(y2 != 0)=true:=by simpa using h2
   clear h2 hg1
   have HF:=lH (And.intro (Alt.of_below (X:=fun k=>k=b) (nx HB.out hb2)) (HH.out.stays (nx HB.out hb2)))
   go_wp2
   go_ret
   exact ⟨_,_,_,by rw [HQ.out]<;>rfl,HF.out.1,by rw [HQ.out];exact HF.out.2⟩
 ·have HQ:=lH (HR.out.1 h1)
  have hne:(y1 != 0)=true:=by simpa using h1
  clear h1
  have HF:=lH (And.intro (Alt.of_below (X:=fun k=>k=b) (nx HB.out hb1)) (HH.out.stays (nx HB.out hb1)))
  go_wp2
  go_ret
  exact ⟨_,_,_,by rw [HQ.out]<;>rfl,HF.out.1,by rw [HQ.out];exact HF.out.2⟩
theorem move_any (n b:Nat) (x:Xc) (f l s i o:Value) (k:Int) (a t q:Int) (w:World) (h:XB n x f l s i o b w) (hs:SmX x) (hk:k=1∨k=2) :
  Calls Tryz.prog 86 #[.pointer (some ⟨b,0,none⟩),.int .i64 k,.agg #[.int .i64 a,.int .i64 t],.int .i64 q] w (PostD n b l s (if q=0 then (x,1) else purR x k (a,t) q) w):=by
 obtain ⟨V,hV⟩:∃ V,V=w.alloc (.cells #[.int .i64 a,.int .i64 t] 50):=⟨_,rfl⟩
 have hbV:Below w.heap.size w V:=hV ▸ below1 w _
 have hx:=h.stays hbV
 have HA:=lH (Alt.of_below (X:=fun k=>k=b) hbV)
 have HX:=lH hx
 have hrow:row V w.heap.size=#[.int .i64 a,.int .i64 t]:=by rw [hV];exact row_is (heap_alloc_new _ _)
 obtain ⟨R,hR⟩:∃ R,(if q=0 then (x,1) else purR x k (a,t) q)=R:=⟨_,rfl⟩
 rw [hR]
 by_cases h0:q=0
 ·subst h0
  have HQ:=lH (show R=(x,1) from hR ▸ if_pos rfl)
  clear hR
  have HV:=lH hV
  clear hrow hV hk h hs
  go_enter Tryz.func86,Tryz.ntmps86
  go_wp2
  rw [← HV.out]
  go_ret
  exact ⟨_,_,_,by rw [HQ.out]<;>rfl,HA.out,by rw [HQ.out];exact HX.out⟩
 ·have h0':(q==0)=false:=by simpa using h0
  rcases hk with rfl | rfl
  ·have HQ:=lH (show R=depR x (a,t) q from hR ▸ if_neg h0)
   clear hR
   have HD:=lH (dep_any n b x f l s i o a t q V hx hs)
   rw [hV] at hrow
   have HV:=lH hV
   clear h0 hV h hs hx
   go_enter Tryz.func86,Tryz.ntmps86
   go_wp2_with fail
   rw [← HV.out]
   refine HD.out.mono ?_
   rintro e w2 ⟨f2,i2,o2,rfl,ha,hx2⟩
   have HF:=lH (And.intro (HA.out.trans ha) hx2)
   clear ha hx2 hrow
   go_wp2
   go_ret
   exact ⟨_,_,_,by rw [HQ.out]<;>rfl,HF.out.1,by rw [HQ.out];exact HF.out.2⟩
  ·have HQ:=lH (show R=wdrR x (a,t) q from hR ▸ if_neg h0)
   clear hR
   have HD:=lH (wdr_any n b x f l s i o a t q V hx hs)
   rw [hV] at hrow
   have HV:=lH hV
   clear h0 hV h hs hx
   go_enter Tryz.func86,Tryz.ntmps86
   go_wp2_with fail
   rw [← HV.out]
   refine HD.out.mono ?_
   rintro e w2 ⟨f2,i2,o2,rfl,ha,hx2⟩
   have HF:=lH (And.intro (HA.out.trans ha) hx2)
   clear ha hx2 hrow
   go_wp2
   go_ret
   exact ⟨_,_,_,by rw [HQ.out]<;>rfl,HF.out.1,by rw [HQ.out];exact HF.out.2⟩
end Go.Proofs.YtjhocpcpkemcaaaGreat.Ex
namespace Go.Proofs.YtjhocpcpkemcaaaGreat.Ex
open Go.RowKit
open Rw
open Da
open Le (LL eL Lv flat low_setCell keeps_setCell)
open La (Ln LN LB cN)
open Ac (Hd Pu HL)
theorem heap_cells (g:Nat) (T:TypeId) (z:Nat × Nat):∀ (vs:List Value) (o:Nat) (w:World) (cur:Array Value),w.heap[g]?=some (.cells cur T z)→∃ cur',(w.setCells g o vs).heap[g]?=some (.cells cur' T z)
 | [],_,_,cur,h=>⟨cur,h⟩
 | v :: r,o,w,_,h=>heap_cells g T z r (o+1) (w.setCell ⟨g,o,none⟩ v) _ (La.setN o v h)
theorem size_cells (g:Nat):∀ (vs:List Value) (o:Nat) (w:World),(w.setCells g o vs).heap.size=w.heap.size
 | [],_,_=>rfl
 | v :: r,o,w=>(size_cells g r (o+1) (w.setCell ⟨g,o,none⟩ v)).trans (World.size_setCell _ _ _)
theorem keeps_cells {B:Bs} {ts:List TypeId} (g:Nat) (T:TypeId) (z:Nat × Nat) (ht:T ∉ ts) (hB:B.lo≤g):∀ (vs:List Value) (o:Nat) (w:World) (cur:Array Value),w.heap[g]?=some (.cells cur T z)→Da.Keeps B ts w (w.setCells g o vs)
 | [],_,_,_,_=>Keeps.refl _ _ _
 | v :: r,o,w,_,h=>(keeps_setCell o v h ht hB).trans (keeps_cells g T z ht hB r (o+1) _ _ (La.setN o v h))
theorem low_cells (g n:Nat) (h:n≤g):∀ (vs:List Value) (o:Nat) (w:World),Below n w (w.setCells g o vs)
 | [],_,_=>Below.refl _ _
 | v :: r,o,w=>(low_setCell o v h).trans (low_cells g n h r (o+1) (w.setCell ⟨g,o,none⟩ v))
theorem other_cells (g k:Nat) (h:k≠g):∀ (vs:List Value) (o:Nat) (w:World),(w.setCells g o vs).heap[k]?=w.heap[k]?
 | [],_,_=>rfl
 | v :: r,o,w=>(other_cells g k h r (o+1) (w.setCell ⟨g,o,none⟩ v)).trans (Below.heap_setCell w ⟨g,o,none⟩ v k h)
section
variable {α:Type} {e:Enc α} {T:TypeId}
theorem Lies.there {B:Bs} {l:List α} {b off:Nat} {w:World} {cur:Array Value} (h:Lies e T B l b off w) (hb:w.heap[b]?=some (.cells cur T (0,0))) {i:Nat} (hi:i<l.length):w.there b (off+i*e.k) e.k:=fun j hj=>by
 obtain ⟨cs,hR,hu⟩:=h.at i hi
 have hl:=e.len hR
 refine ⟨?_,?_⟩
 ·rw [hu j _ (List.getElem?_eq_getElem (by omega))];rfl
 ·simp [World.frozen?,hb]
theorem Lies.setAt {B:Bs} {l:List α} {b off:Nat} {w:World} {cur:Array Value} (h:Lies e T B l b off w) (hb:w.heap[b]?=some (.cells cur T (0,0))) (hx:¬ B.ex b) (hB:B.lo≤b) (hT:T ∉ e.ts) {i:Nat} (hi:i<l.length) {x:α} {cs:List Value} (hR:e.R B x cs w):Lies e T B (l.set i x) b off (w.setCells b (off+i*e.k) cs):=by
 have hl:=e.len hR
 have hk:=keeps_cells (B:=B) (ts:=e.ts) b T (0,0) hT hB cs (off+i*e.k) w cur hb
 obtain ⟨cur',hc'⟩:=heap_cells b T (0,0) cs (off+i*e.k) w cur hb
 have ht:=Lies.there h hb hi
 refine ⟨by rw [size_cells];exact h.1,.inr ⟨⟨cur',hc'⟩,hx⟩,fun j y hy=>?_⟩
 by_cases hij:i=j
 ·subst hij
  have:y=x:=by rw [List.getElem?_set_self hi] at hy;exact (Option.some.inj hy).symm
  subst this
  refine ⟨cs,e.keep hR hk,fun q u hu=>?_⟩
  exact World.rangeAt_setCells_same w b (off+i*e.k) cs (by rw [hl];exact ht) q u hu
 ·rw [List.getElem?_set_ne hij] at hy
  obtain ⟨ds,hD,hu⟩:=h.2.2 j y hy
  refine ⟨ds,e.keep hD hk,fun q u hq=>?_⟩
  have hq2:q<e.k:=by rw [← e.len hD];exact (List.getElem?_eq_some_iff.1 hq).1
  rw [World.cell?_setCells_out b cs (off+i*e.k) w ⟨b,off+j*e.k+q,none⟩ (fun _ _=>?_)]
  ·exact hu q u hq
  ·show off+j*e.k+q<off+i*e.k∨off+i*e.k+cs.length≤off+j*e.k+q
   rw [hl]
   rcases Nat.lt_or_gt_of_ne hij with h1 | h1
   ·right
    have:=Nat.mul_le_mul_right e.k (show i+1≤j from h1)
    rw [Nat.add_mul,Nat.one_mul] at this;omega
   ·left
    have:=Nat.mul_le_mul_right e.k (show j+1≤i from h1)
    rw [Nat.add_mul,Nat.one_mul] at this;omega
end
def thereOf (w:World):Value→Nat→Prop
 | .pointer (some ⟨b,o,none⟩),n=>w.there b o n
 | _,_=>False
def putMid (w:World):Value→Array Value→World
 | .pointer (some ⟨b,o,none⟩),cs=>w.setCells b o cs.toList
 | _,_=>w
theorem thereOf_at (w:World) (b o n:Nat):thereOf w (.pointer (some ⟨b,o,none⟩)) n=w.there b o n:=rfl
theorem putMid_at (w:World) (b o:Nat) (cs:Array Value):putMid w (.pointer (some ⟨b,o,none⟩)) cs=w.setCells b o cs.toList:=rfl
theorem storeMidN (ρ:Operand→Value) (dst:Option Tmp) (ty:TypeId) (pos:String) (after:Array Edge) (guard:Option (Nat × Bool)) (w:World) (p x:Operand) (h:thereOf w (ρ p) 6) (hs:(ρ x).cells.size=6) (h1:oneAll (ρ x)=true) (ha:ρ x=.agg (ρ x).cells) :
  (execOp ρ { dst,op:=.store 59 p x,type:=ty,pos,after,guard }).run Tryz.prog w=.ok .skip (putMid w (ρ p) (ρ x).cells):=by
 generalize hp:ρ p=P at h ⊢
 generalize hv:ρ x=X at hs h1 ha ⊢
 match P,h with
 | .pointer (some ⟨b,o,none⟩),h =>
  have:=run_storeAt_mid (P:=Tryz.prog) w b o 59 X.cells (by rw [hs];exact h) (by rw [hs];kernel_rfl) h1
  rw [← ha] at this
  simp [execOp,hp,hv,this,putMid]
attribute [go_sem ↓] storeMidN
attribute [go_sem] thereOf_at putMid_at
end Go.Proofs.YtjhocpcpkemcaaaGreat.Ex
namespace Go.Proofs.YtjhocpcpkemcaaaGreat.Ex
open Go.RowKit
open Rw
open Da
open Le (LL eL Lv flat low_setCell keeps_setCell)
open La (Ln LN LB cN placeN cancelN collectN RightN rightN)
open Bk (Fl FL eFl sumQ bestP BL)
open Ac (Hd Pu HL)
theorem fin_fills (l:Ln) (fr:List Hd) (ow s p:Int) (C:Bk.Pl) (S:List Hd × Int × Int × Int):(La.fin l fr ow s p C S).2.2.1=C.2.1∨(La.fin l fr ow s p C S).2.2.1=[]:=by
 unfold La.fin
 simp only
 generalize (if s=2 then l.1 else l.2.1)=ua
 generalize (if s=2 then l.2.1 else l.1)=ga
 generalize S.2.1+(if 0<C.2.2.2.1 then La.ndN s p C.2.2.1 else 0)=P
 by_cases h1:Ac.takeE fr (ow,ua) P=0
 ·rw [if_pos h1]
  by_cases h2:Ac.giveE (Ac.takeL fr (ow,ua) P) (ow,ga) S.2.2.1=0
  ·rw [if_pos h2];exact .inl rfl
  ·rw [if_neg h2];exact .inr rfl
 ·rw [if_neg h1];exact .inr rfl
theorem place_fills {l:Ln} (h:RightN l) (fr:List Hd) (ow s p q:Int) (rest:Bool):(placeN l fr ow s p q rest).2.2.1.length≤40∧∀ f∈(placeN l fr ow s p q rest).2.2.1,0≤f.2.2.2.1∧f.2.2.2.1≤1048576:=by
 have nil:([]:List Fl).length≤40∧∀ f∈([]:List Fl),0≤f.2.2.2.1∧f.2.2.2.1≤1048576:=⟨by simp,by simp⟩
 unfold placeN
 by_cases c:(rightN l&&Ac.right fr)=true
 ·rw [if_pos c]
  simp only
  by_cases h1:(Bk.place l.2.2.1 ow s p q rest).2.2.2.2=0
  ·rw [if_pos h1]
   have hC:=La.place_n (B:=l.1) (Q:=l.2.1) h.book h1
   by_cases h2:(La.stl l.1 l.2.1 s (Bk.place l.2.2.1 ow s p q rest).2.1 l.2.2.2 0 0).2.2.2=0
   ·rw [if_pos h2]
    rcases fin_fills l fr ow s p (Bk.place l.2.2.1 ow s p q rest) (La.stl l.1 l.2.1 s (Bk.place l.2.2.1 ow s p q rest).2.1 l.2.2.2 0 0) with k | k
    ·rw [k];exact ⟨hC.cnt,fun f hf=>⟨(hC.fills f hf).2.2.1,(hC.fills f hf).2.2.2⟩⟩
    ·rw [k];exact nil
   ·rw [if_neg h2];exact nil
  ·rw [if_neg h1];exact nil
 ·rw [if_neg c];exact nil
theorem place_fills2 (l:Ln) (fr:List Hd) (ow s p q:Int) (rest:Bool):(placeN l fr ow s p q rest).2.2.1.length≤40∧∀ f∈(placeN l fr ow s p q rest).2.2.1,0≤f.2.2.2.1∧f.2.2.2.1≤1048576:=by
 by_cases c:rightN l=true
 ·exact place_fills (La.rightN_iff.1 c) fr ow s p q rest
 ·have:placeN l fr ow s p q rest=(l,fr,[],0,1):=by unfold placeN;rw [if_neg (by simp [c])]
  rw [this];exact ⟨by simp,by simp⟩
theorem same_cells (g:Nat):∀ (vs:List Value) (o:Nat) (u:World),(u.setCells g o vs).os=u.os∧(u.setCells g o vs).tape=u.tape∧(u.setCells g o vs).output=u.output
 | [],_,_=>⟨rfl,rfl,rfl⟩
 | v :: vs,o,u=>by
  have k:=same_cells g vs (o+1) (u.setCell ⟨g,o,none⟩ v)
  exact ⟨k.1.trans rfl,k.2.1.trans rfl,k.2.2.trans rfl⟩
section
variable {n b g d2:Nat} {x:Xc} {f s i o:Value} {ln:Ln} {p q z:Value} {cc rc:Array Value} {w u:World}
end
end Go.Proofs.YtjhocpcpkemcaaaGreat.Ex
namespace Go.Proofs.YtjhocpcpkemcaaaGreat.Ex
open Go.RowKit
open Rw
open Da
open Le (LL eL Lv flat low_setCell keeps_setCell)
open La (Ln LN LB cN eH hl_is is_hl)
open Ac (Hd Pu HL)
open Bk (Fl FL eFl sumQ)
structure XL (n Bo:Nat) (x:Xc) (f s i o:Value) (g d b:Nat) (u:World):Prop where
 box:XB n x f (.slice (some ⟨g,0,none⟩) x.lanes.length d) s i o b u
 lot:Lot eN 59 n Bo g x.lanes u
 bo:Bo≤b
section
variable {n Bo:Nat} {x:Xc} {f s i o:Value} {g d b:Nat} {u w:World}
theorem XL.stays {u':World} (h:XL n Bo x f s i o g d b u) (k:Below u.heap.size u u'):XL n Bo x f s i o g d b u':=⟨h.box.stays k,h.lot.stays k,h.bo⟩
theorem XL.ne (h:XL n Bo x f s i o g d b u):b≠g:=fun e=>by
 obtain ⟨cur,hc⟩:=h.lot.ty
 have:=h.box.bk
 rw [e,hc] at this;injection this with this;injection this with _ e2;exact absurd e2 (by decide)
theorem XL.at (h:XL n Bo x f s i o g d b u) {k:Nat} (hk:k<x.lanes.length) :
  ∃ a1 n1 c1 a2 n2 c2 a3 n3 c3,LL (Bs.of n) x.lanes[k].2.2.1.1 (.slice a1 n1 c1) u∧LL (Bs.of n) x.lanes[k].2.2.1.2.1 (.slice a2 n2 c2) u∧HL n x.lanes[k].2.2.2 (.slice a3 n3 c3) u∧u.cell? ⟨g,k*6,none⟩=some (.int .i64 x.lanes[k].1)∧u.cell? ⟨g,k*6+1,none⟩=some (.int .i64 x.lanes[k].2.1)∧u.cell? ⟨g,k*6+2,none⟩=some (.slice a1 n1 c1)
  ∧u.cell? ⟨g,k*6+3,none⟩=some (.slice a2 n2 c2)∧u.cell? ⟨g,k*6+4,none⟩=some (.int .i64 x.lanes[k].2.2.1.2.2)∧u.cell? ⟨g,k*6+5,none⟩=some (.slice a3 n3 c3):=by
 obtain ⟨a1,n1,c1,a2,n2,c2,a3,n3,c3,hl,r0,r1,r2,r3,r4,r5⟩:=atN h.lot.ls k hk
 simp only [Nat.zero_add] at r0 r1 r2 r3 r4 r5
 obtain ⟨x',y',o',e,t1,t2,t3⟩:=hl
 have e:=congrArg Value.cells e
 simp only [Value.cells,cN,Array.mk.injEq,List.cons.injEq,and_true,true_and] at e
 obtain ⟨rfl,rfl,rfl⟩:=e
 exact ⟨_,_,_,_,_,_,_,_,_,t1,t2,t3,r0,r1,r2,r3,r4,r5⟩
theorem XL.lane {ln:Ln} {p q z:Value} (h:XL n Bo x f s i o g d b u) {k:Nat} (hk:k<x.lanes.length) (h1:LL (Bs.of n) ln.2.2.1.1 p u) (h2:LL (Bs.of n) ln.2.2.1.2.1 q u) (h3:HL n ln.2.2.2 z u) :
  u.there g (k*6) 6∧XL n Bo { x with lanes:=x.lanes.set k ln } f s i o g d b (u.setCells g (k*6) [.int .i64 ln.1,.int .i64 ln.2.1,p,q,.int .i64 ln.2.2.1.2.2,z])∧(∀ ts,59 ∉ ts→Da.Keeps (Bs.of n) ts u (u.setCells g (k*6) [.int .i64 ln.1,.int .i64 ln.2.1,p,q,.int .i64 ln.2.2.1.2.2,z])):=by
 obtain ⟨cur,hg⟩:=h.lot.ty
 have hR:eN.R (Bs.of n) ln [.int .i64 ln.1,.int .i64 ln.2.1,p,q,.int .i64 ln.2.2.1.2.2,z] u:=eN_mk h1 h2 (hl_is h3)
 have kp:∀ ts,59 ∉ ts→Da.Keeps (Bs.of n) ts u (u.setCells g (k*6) [.int .i64 ln.1,.int .i64 ln.2.1,p,q,.int .i64 ln.2.2.1.2.2,z]):=fun ts ht=>keeps_cells g 59 (0,0) ht h.lot.lo _ _ u cur hg
 have ht:=Lies.there h.lot.ls hg hk
 have hs:=Lies.setAt h.lot.ls hg (fun h=>h) h.lot.lo typesN hk hR
 simp only [Nat.zero_add] at ht hs
 have hs:Lies eN 59 (Bs.of n) (x.lanes.set k ln) g 0 (u.setCells g (k*6) [.int .i64 ln.1,.int .i64 ln.2.1,p,q,.int .i64 ln.2.2.1.2.2,z]):=hs
 obtain ⟨cur',hg'⟩:=heap_cells g 59 (0,0) [.int .i64 ln.1,.int .i64 ln.2.1,p,q,.int .i64 ln.2.2.1.2.2,z] (k*6) u cur hg
 have hl:Lot eN 59 n Bo g (x.lanes.set k ln) (u.setCells g (k*6) [.int .i64 ln.1,.int .i64 ln.2.1,p,q,.int .i64 ln.2.2.1.2.2,z]):=⟨hs,⟨cur',hg'⟩,h.lot.bo,h.lot.lo⟩
 refine ⟨ht,⟨⟨?_,h.box.lo,La.hl_keep h.box.d.free (kp _ (by decide)),?_,Is.keep _ _ h.box.d.sess (kp _ (by decide)),La.hl_keep h.box.d.inn (kp _ (by decide)),La.hl_keep h.box.d.out (kp _ (by decide)),?_⟩,hl,h.bo⟩,kp⟩
 ·rw [show ({ x with lanes:=x.lanes.set k ln }:Xc).lanes.length=x.lanes.length from List.length_set];exact (other_cells g b h.ne _ _ u).trans h.box.bk
 ·exact hl.is
 ·have:=h.box.d.cap
  show (x.lanes.set k ln).length≤d
  rw [List.length_set];exact this
theorem XL.free {fr:List Hd} {f':Value} (h:XL n Bo x f s i o g d b u) (hf:HL n fr f' u):XL n Bo { x with free:=fr } f' s i o g d b (u.setCell ⟨b,0,none⟩ f'):=by
 have kp:Da.Keeps (Bs.of n) xts u (u.setCell ⟨b,0,none⟩ f'):=keeps_setCell 0 f' h.box.bk (by decide) h.box.lo
 have hl:Lot eN 59 n Bo g x.lanes (u.setCell ⟨b,0,none⟩ f'):=by
  obtain ⟨cur,hg⟩:=h.lot.ty
  exact ⟨Lies.keep _ _ h.lot.ls (kp.less (by decide)),⟨cur,(Below.heap_setCell u ⟨b,0,none⟩ f' g (Ne.symm h.ne)).trans hg⟩,h.lot.bo,h.lot.lo⟩
 exact ⟨h.box.set (y:=({ x with free:=fr }:Xc)) 0 f' rfl ⟨hf,h.box.d.lanes,h.box.d.sess,h.box.d.inn,h.box.d.out,h.box.d.cap⟩,hl,h.bo⟩
end
abbrev gb (g b:Nat):Nat→Prop:=fun k=>k=g∨k=b
theorem alt_lane {g b o:Nat} {vs:List Value} {w u:World} (h:Alt (gb g b) w u):Alt (gb g b) w (u.setCells g o vs) :=
 ⟨(same_cells g vs o u).1.trans h.os,(same_cells g vs o u).2.1.trans h.tape,(same_cells g vs o u).2.2.trans h.output,by rw [size_cells];exact h.size,fun k hk hx=>(other_cells g k (fun e=>hx (.inl e)) vs o u).trans (h.block k hk hx)⟩
theorem alt_free {g b j:Nat} {v:Value} {w u:World} (h:Alt (gb g b) w u):Alt (gb g b) w (u.setCell ⟨b,j,none⟩ v) :=
 ⟨h.os,h.tape,h.output,by rw [World.size_setCell];exact h.size,fun k hk hx=>(Below.heap_setCell u ⟨b,j,none⟩ v k (fun e=>hx (.inr e))).trans (h.block k hk hx)⟩
def PostE (n Bo:Nat) (s:Value) (g d b:Nat) (R:Xc × Int × Int × Int) (w:World) (e:Ending) (w':World):Prop :=
 ∃ f i o,e=.returned (.tuple #[.int .i64 R.2.2.1,.int .i64 R.2.2.2,.int .i64 R.2.1])∧Alt (gb g b) w w'∧XL n Bo R.1 f s i o g d b w'
theorem execL_in {x:Xc} {c:Nat→Int} {l:Ln} (h:x.lanes[(c 3).toNat]?=some l):execL x c=({ x with lanes:=x.lanes.set (c 3).toNat (act l x.free c).1,free:=(act l x.free c).2.1 },(act l x.free c).2.2):=by unfold execL;rw [h]
def NV (n:Nat) (ln:Ln) (fr:List Hd) (rest:List Value→World→Prop) (v:Value) (u:World):Prop :=
 ∃ a1 n1 c1 a2 n2 c2 a3 n3 c3 a4 n4 c4 r,v=.tuple (.agg (cN ln.1 ln.2.1 (.slice a1 n1 c1) (.slice a2 n2 c2) ln.2.2.1.2.2 (.slice a3 n3 c3)) :: .slice a4 n4 c4 :: r).toArray∧LL (Bs.of n) ln.2.2.1.1 (.slice a1 n1 c1) u∧LL (Bs.of n) ln.2.2.1.2.1 (.slice a2 n2 c2) u∧HL n ln.2.2.2 (.slice a3 n3 c3) u∧HL n fr (.slice a4 n4 c4) u∧rest r u
theorem NV.stays {n:Nat} {ln:Ln} {fr:List Hd} {F:List Value→World→Prop} (hF:∀ r w w',F r w→Below w.heap.size w w'→F r w') {v:Value} {u u':World} (h:NV n ln fr F v u) (k:Below u.heap.size u u'):NV n ln fr F v u':=by
 obtain ⟨a1,n1,c1,a2,n2,c2,a3,n3,c3,a4,n4,c4,r,e,h1,h2,h3,h4,h5⟩:=h
 exact ⟨a1,n1,c1,a2,n2,c2,a3,n3,c3,a4,n4,c4,r,e,Is.stays _ _ h1 k,Is.stays _ _ h2 k,La.hl_stays h3 k,La.hl_stays h4 k,hF _ _ _ h5 k⟩
theorem NV.inv {n:Nat} {ln:Ln} {fr:List Hd} {F:List Value→World→Prop} {a1 a2 a3 a4:Option Addr} {n1 c1 n2 c2 n3 c3 n4 c4:Nat} {r:List Value} {u:World} {i j k:Int}
  (h:NV n ln fr F (.tuple (.agg (cN i j (.slice a1 n1 c1) (.slice a2 n2 c2) k (.slice a3 n3 c3)) :: .slice a4 n4 c4 :: r).toArray) u):LL (Bs.of n) ln.2.2.1.1 (.slice a1 n1 c1) u∧LL (Bs.of n) ln.2.2.1.2.1 (.slice a2 n2 c2) u∧HL n ln.2.2.2 (.slice a3 n3 c3) u∧HL n fr (.slice a4 n4 c4) u∧F r u:=by
 obtain ⟨x1,y1,z1,x2,y2,z2,x3,y3,z3,x4,y4,z4,r',hv,h1,h2,h3,h4,h5⟩:=h
 simp only [Value.tuple.injEq,Array.mk.injEq,List.cons.injEq,Value.agg.injEq,cN,Value.slice.injEq,and_true] at hv
 obtain ⟨⟨-,-,⟨rfl,rfl,rfl⟩,⟨rfl,rfl,rfl⟩,-,⟨rfl,rfl,rfl⟩⟩,⟨rfl,rfl,rfl⟩,rfl⟩:=hv
 exact ⟨h1,h2,h3,h4,h5⟩
end Go.Proofs.YtjhocpcpkemcaaaGreat.Ex
