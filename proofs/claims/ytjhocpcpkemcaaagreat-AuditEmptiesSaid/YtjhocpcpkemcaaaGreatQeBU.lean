/- Commands, and arrays of nine numbers, as rows of nine cells. -/
import Derived.Test.YtjhocpcpkemcaaaGreatQeZZ
import Derived.Test.YtjhocpcpkemcaaaGreatRows
import Derived.Test.YtjhocpcpkemcaaaGreatQeAI
import Derived.Test.YtjhocpcpkemcaaaGreatQeAJ
import Derived.Test.YtjhocpcpkemcaaaGreatQeAH
import Derived.Test.YtjhocpcpkemcaaaGreatQeBM
import Derived.Test.YtjhocpcpkemcaaaGreatQeBL
import Derived.Test.YtjhocpcpkemcaaaGreatQeBS
import Derived.Test.YtjhocpcpkemcaaaGreatQeBO
import Derived.Test.YtjhocpcpkemcaaaGreatQeBT
set_option linter.unusedVariables false
set_option maxRecDepth 16000
set_option maxHeartbeats 32000000
namespace Go.Proofs.YtjhocpcpkemcaaaGreat.Cm
open Go.RowKit
open Rw
def fc (f:Nat→Int):Array Value:=((List.range 9).map fun i=>Value.int .i64 (f i)).toArray
theorem fc_size (f:Nat→Int):(fc f).size=9:=by simp [fc]
theorem fc_at (f:Nat→Int) (k:Nat) (h:k<9):(fc f)[k]?=some (.int .i64 (f k)):=by simp [fc,h]
theorem fc_get (f:Nat→Int) (k:Nat) (h:k<(fc f).size):(fc f)[k]=.int .i64 (f k):=by simp [fc]
theorem fc_set (f:Nat→Int) (k:Nat) (x:Int):(fc f).setIfInBounds k (.int .i64 x)=fc (upd f k x):=by
 apply Array.ext'
 unfold fc
 rw [Array.toList_setIfInBounds]
 apply List.ext_getElem
 ·simp
 ·intro i h1 h2
  simp at h1 h2
  rw [List.getElem_set]
  by_cases h:k=i
  ·subst h;simp [upd]
  ·have h3:¬ i=k:=fun e=>h e.symm
   simp [h,upd,h3]
theorem fc_list (f:Nat→Int):(fc f).toList=[.int .i64 (f 0),.int .i64 (f 1),.int .i64 (f 2),.int .i64 (f 3),.int .i64 (f 4),.int .i64 (f 5),.int .i64 (f 6),.int .i64 (f 7),.int .i64 (f 8)]:=rfl
theorem fc_one (f:Nat→Int):oneAll (.agg (fc f))=true:=by
 show (fc f).all (·.oneCell')=true
 rw [← Array.all_toList,fc_list];rfl
theorem cells_agg (c:Array Value):(Value.agg c).cells=c:=rfl
theorem zeroC:∀ w,(zeroValue 35).run Tryz.prog w=.ok (.agg (fc zeroF)) w:=(zero_of_info (n:=9) (by kernel_rfl)).1
section
variable (ρ:Operand→Value) (dst:Option Tmp) (ty:TypeId) (pos:String) (after:Array Edge) (guard:Option (Nat × Bool)) (w:World)
theorem loadC (x:Operand) (h:(rowOf w (ρ x)).size=9):(execOp ρ { dst,op:=.load 35 x,type:=ty,pos,after,guard }).run Tryz.prog w=.ok (.value (.agg (rowOf w (ρ x)))) w :=
 exec_load (n:=8) ρ dst ty pos after guard w Tryz.underlying35 rfl (by kernel_rfl) x h
theorem storeC (p x:Operand) (h:plainAt 9 w (ρ p)=true) (hs:(ρ x).cells.size=9) (h1:oneAll (ρ x)=true) (ha:ρ x=.agg (ρ x).cells):(execOp ρ { dst,op:=.store 35 p x,type:=ty,pos,after,guard }).run Tryz.prog w=.ok .skip (putRow w (ρ p) (ρ x).cells) :=
 exec_store (n:=8) ρ dst ty pos after guard w (by kernel_rfl) p x h hs h1 ha
theorem allocC:(execOp ρ { dst,op:=.alloc 35,type:=ty,pos,after,guard }).run Tryz.prog w=.ok (.value (.pointer (some ⟨w.heap.size,0,none⟩))) (w.alloc (.cells (fc zeroF) 35)) :=
 exec_alloc ρ dst ty pos after guard w zeroC
theorem buildC:(execOp ρ { dst,op:=.build 35 #[],type:=ty,pos,after,guard }).run Tryz.prog w=.ok (.value (.agg (fc zeroF))) w:=by
 have:=run_build (P:=Tryz.prog) w 35 #[] (fc zeroF) (by kernel_rfl)
 simp [execOp,this]
end
attribute [go_sem ↓] loadC storeC allocC buildC
attribute [go_sem] fc_size fc_at fc_get fc_set fc_one cells_agg
def v9 (a b c d e f g h i:Int):Nat→Int
 | 0=>a | 1=>b | 2=>c | 3=>d | 4=>e | 5=>f | 6=>g | 7=>h | 8=>i | _=>0
theorem agg9 (a b c d e f g h i:Int):Value.agg #[.int .i64 a,.int .i64 b,.int .i64 c,.int .i64 d,.int .i64 e,.int .i64 f,.int .i64 g,.int .i64 h,.int .i64 i]=.agg (fc (v9 a b c d e f g h i)):=rfl
section
variable (a b c d e f g h i:Int)
theorem v9_0:v9 a b c d e f g h i 0=a:=rfl
theorem v9_1:v9 a b c d e f g h i 1=b:=rfl
theorem v9_2:v9 a b c d e f g h i 2=c:=rfl
theorem v9_3:v9 a b c d e f g h i 3=d:=rfl
theorem v9_4:v9 a b c d e f g h i 4=e:=rfl
theorem v9_5:v9 a b c d e f g h i 5=f:=rfl
theorem v9_6:v9 a b c d e f g h i 6=g:=rfl
theorem v9_7:v9 a b c d e f g h i 7=h:=rfl
theorem v9_8:v9 a b c d e f g h i 8=i:=rfl
theorem upd_0 (x:Int):upd (v9 a b c d e f g h i) 0 x=v9 x b c d e f g h i:=by funext j;unfold upd;match j with | 0=>rfl | 1=>rfl | 2=>rfl | 3=>rfl | 4=>rfl | 5=>rfl | 6=>rfl | 7=>rfl | 8=>rfl | (_+9)=>exact if_neg (by omega)
theorem upd_1 (x:Int):upd (v9 a b c d e f g h i) 1 x=v9 a x c d e f g h i:=by funext j;unfold upd;match j with | 0=>rfl | 1=>rfl | 2=>rfl | 3=>rfl | 4=>rfl | 5=>rfl | 6=>rfl | 7=>rfl | 8=>rfl | (_+9)=>exact if_neg (by omega)
theorem upd_2 (x:Int):upd (v9 a b c d e f g h i) 2 x=v9 a b x d e f g h i:=by funext j;unfold upd;match j with | 0=>rfl | 1=>rfl | 2=>rfl | 3=>rfl | 4=>rfl | 5=>rfl | 6=>rfl | 7=>rfl | 8=>rfl | (_+9)=>exact if_neg (by omega)
theorem upd_3 (x:Int):upd (v9 a b c d e f g h i) 3 x=v9 a b c x e f g h i:=by funext j;unfold upd;match j with | 0=>rfl | 1=>rfl | 2=>rfl | 3=>rfl | 4=>rfl | 5=>rfl | 6=>rfl | 7=>rfl | 8=>rfl | (_+9)=>exact if_neg (by omega)
theorem upd_4 (x:Int):upd (v9 a b c d e f g h i) 4 x=v9 a b c d x f g h i:=by funext j;unfold upd;match j with | 0=>rfl | 1=>rfl | 2=>rfl | 3=>rfl | 4=>rfl | 5=>rfl | 6=>rfl | 7=>rfl | 8=>rfl | (_+9)=>exact if_neg (by omega)
theorem upd_5 (x:Int):upd (v9 a b c d e f g h i) 5 x=v9 a b c d e x g h i:=by funext j;unfold upd;match j with | 0=>rfl | 1=>rfl | 2=>rfl | 3=>rfl | 4=>rfl | 5=>rfl | 6=>rfl | 7=>rfl | 8=>rfl | (_+9)=>exact if_neg (by omega)
theorem upd_6 (x:Int):upd (v9 a b c d e f g h i) 6 x=v9 a b c d e f x h i:=by funext j;unfold upd;match j with | 0=>rfl | 1=>rfl | 2=>rfl | 3=>rfl | 4=>rfl | 5=>rfl | 6=>rfl | 7=>rfl | 8=>rfl | (_+9)=>exact if_neg (by omega)
theorem upd_7 (x:Int):upd (v9 a b c d e f g h i) 7 x=v9 a b c d e f g x i:=by funext j;unfold upd;match j with | 0=>rfl | 1=>rfl | 2=>rfl | 3=>rfl | 4=>rfl | 5=>rfl | 6=>rfl | 7=>rfl | 8=>rfl | (_+9)=>exact if_neg (by omega)
theorem upd_8 (x:Int):upd (v9 a b c d e f g h i) 8 x=v9 a b c d e f g h x:=by funext j;unfold upd;match j with | 0=>rfl | 1=>rfl | 2=>rfl | 3=>rfl | 4=>rfl | 5=>rfl | 6=>rfl | 7=>rfl | 8=>rfl | (_+9)=>exact if_neg (by omega)
end
theorem fc_ne (f:Nat→Int):(fc f=#[])=False:=by
 apply propext;constructor
 ·intro h;have:=fc_size f;rw [h] at this;cases this
 ·exact False.elim
attribute [go_sem] fc_ne upd_0 upd_1 upd_2 upd_3 upd_4 upd_5 upd_6 upd_7 upd_8 agg9 v9_0 v9_1 v9_2 v9_3 v9_4 v9_5 v9_6 v9_7 v9_8
end Go.Proofs.YtjhocpcpkemcaaaGreat.Cm
namespace Go.Proofs.YtjhocpcpkemcaaaGreat.La
open Go.RowKit
open Rw
open Da
open Le
open Bk
open Ac (Hd Pu HL pmay pmay_iff tot total giveE giveL takeE takeL)
theorem placeB_is {b:Bk} {ow s p q:Int} {rest:Bool} {c:Pl} (h:Hid (place b ow s p q rest=c)) (h1:b.1.length≤1000) (h2:(flat b.1).length≤1000) (h3:b.2.1.length≤1000) (h4:(flat b.2.1).length≤1000) (B:Bs) (v:Value) (w:World) (hb:BL B b v w) (hB:B.le w.heap.size) :
  Calls Tryz.prog 151 #[v,.int .i64 ow,.int .i64 s,.int .i64 p,.int .i64 q,.bool rest] w (PlR B c.1 c.2.1 c.2.2.1 c.2.2.2.1 c.2.2.2.2 w):=by
 rw [← h.out]
 refine (Bk.place_any B b v ow s p q rest w hb hB h1 h2 h3 h4).mono fun e w' h=>?_
 obtain ⟨bv,fv,rfl,hb,⟨x,y,rfl,h1,h2⟩,h3⟩:=h
 obtain ⟨a1,c1,rfl⟩:=h1.len
 obtain ⟨a2,c2,rfl⟩:=h2.len
 obtain ⟨fa,fc,rfl⟩:=h3.len
 exact ⟨a1,_,c1,a2,_,c2,_,fa,_,fc,rfl,rfl,rfl,hb,h1,h2,h3⟩
theorem fin_set {l:Ln} {fr:List Hd} {ow s p L:Int} {C:Pl} {S:List Hd × Int × Int × Int} (hs:s=1∨s=2) (hid:0≤C.2.2.2.1) (hL:L=if C.2.2.2.1=0 then 0 else C.2.2.1) (hp:S.2.1=sumP s C.2.1) (hg:S.2.2.1=sumG s C.2.1) :
  fin l fr ow s p C S=if setE l.1 l.2.1 ow s fr (ndN s p L+sumP s C.2.1) (sumG s C.2.1)=0 then ((l.1,l.2.1,C.1,S.1),giveL (takeL fr (ow,ndA l.1 l.2.1 s) (ndN s p L+sumP s C.2.1)) (ow,ndA l.1 l.2.1 (othS s)) (sumG s C.2.1),C.2.1,C.2.2.2.1,0) else (l,fr,[],0,setE l.1 l.2.1 ow s fr (ndN s p L+sumP s C.2.1) (sumG s C.2.1)):=by
 have e1:(if s=2 then l.1 else l.2.1)=ndA l.1 l.2.1 s:=by rcases hs with rfl | rfl<;>rfl
 have e2:(if s=2 then l.2.1 else l.1)=ndA l.1 l.2.1 (othS s):=by rcases hs with rfl | rfl<;>rfl
 have e3:S.2.1+(if 0<C.2.2.2.1 then ndN s p C.2.2.1 else 0)=ndN s p L+sumP s C.2.1:=by
  rw [hp,hL]
  by_cases h0:C.2.2.2.1=0
  ·rw [if_pos h0,if_neg (by omega)]
   have:ndN s p 0=0:=by unfold ndN;split<;>simp
   omega
  ·rw [if_neg h0,if_pos (by omega)];omega
 unfold fin setE
 simp only
 rw [e1,e2,e3,hg]
 by_cases h1:takeE fr (ow,ndA l.1 l.2.1 s) (ndN s p L+sumP s C.2.1)=0
 ·rw [if_pos h1,if_pos h1]
 ·rw [if_neg h1,if_neg h1,if_neg h1]
theorem lplace_any (B:Bs) (l:Ln) (v:Value) (fr:List Hd) (fv:Value) (ow s p q:Int) (rest:Bool) (w:World) (h:LN B l v w) (hfr:HL B.lo fr fv w) (hB:B.le w.heap.size) (hs:Sm l) (hfm:fr.length≤1000) :
  Calls Tryz.prog 125 #[v,fv,.int .i64 ow,.int .i64 s,.int .i64 p,.int .i64 q,.bool rest] w (PostPN B (placeN l fr ow s p q rest) w):=by
 have HSm:=lH hs
 obtain ⟨R,hR⟩:∃ R,placeN l fr ow s p q rest=R:=⟨_,rfl⟩
 have HR:=lH hR
 rw [hR]
 obtain ⟨r,hr⟩:∃ r,(rightN l&&Ac.right fr)=r:=⟨_,rfl⟩
 have HR1:=lH hr
 have hm1:=hs.m1
 have hm2:=hs.m2
 have hm3:=hs.m3
 have hm4:=hs.m4
 have hm5:=hs.m5
 clear hR hr
 obtain ⟨lb,lq,⟨bu,se,nn⟩,od⟩:=l
 simp only at hm1 hm2 hm3 hm4 hm5
 obtain ⟨a1,n1,c1,a2,n2,c2,a3,n3,c3,rfl,e1,e2,e3,hl1,hl2,hl3⟩:=h.open'
 simp only at e1 e2 e3 hl1 hl2 hl3
 obtain ⟨V,hV⟩:∃ V,V=(w.alloc (.cells (cN lb lq (.slice a1 n1 c1) (.slice a2 n2 c2) nn (.slice a3 n3 c3)) 59)).alloc (.cells (nilN 0 0 0) 59):=⟨_,rfl⟩
 have hbV:Below w.heap.size w V:=hV ▸ below2 w _ _
 have hx0:LB B (lb,lq,(bu,se,nn),od) (.slice a1 n1 c1) (.slice a2 n2 c2) (.slice a3 n3 c3) w.heap.size V:=by rw [hV];exact (LB.made hl1 hl2 hl3 hB.1).stays (below1 _ _)
 have hg0:V.heap[w.heap.size+1]?=some (.cells (nilN 0 0 0) 59 (0,0)):=by
  have:=heap_alloc_new (w.alloc (.cells (cN lb lq (.slice a1 n1 c1) (.slice a2 n2 c2) nn (.slice a3 n3 c3)) 59)) (.cells (nilN 0 0 0) 59)
  rw [World.size_alloc] at this
  rw [hV];exact this
 have HB:=lH (show ∀ u,Below w.heap.size w u→B.le u.heap.size from fun u hu=>hB.mono hu.size)
 have HSt0:=lH (show St0 B (lb,lq,(bu,se,nn),od) (.slice a1 n1 c1) (.slice a2 n2 c2) (.slice a3 n3 c3) w.heap.size fr fv w V from ⟨hx0,hg0,hl_stays hfr hbV,hbV⟩)
 obtain ⟨fa,fc,rfl⟩:=hl_slice hfr
 obtain ⟨fn,hfn⟩:∃ fn,fr.length=fn:=⟨_,rfl⟩
 rw [hfn] at HSt0 hfm ⊢
 have HFn:=lH hfn
 have r0:=hx0.row
 simp only at r0
 rw [hV] at r0
 have HV:=lH hV
 clear hx0 hg0 hl1 hl2 hl3 h hfr hB e1 e2 e3 hV hfn hs
 go_enter Tryz.func125,Tryz.ntmps125
 go_wp2_with fail
 rw [← HV.out]
 refine (areRight_is HR1 HSt0.out.lb.ln HSt0.out.fr (HB.out V hbV) HSm.out (by rw [HFn.out];exact hfm)).mono ?_
 rintro e w1 ⟨rfl,hb1⟩
 have HSt1:=lH (HSt0.out.stays hb1)
 clear r0
 cases r
 ·have HZ:Hid (R=((lb,lq,(bu,se,nn),od),fr,[],0,1)):=lH (by rw [← HR.out];unfold placeN;rw [HR1.out,if_neg (by decide)])
  have hrow:=HSt1.out.lb.row
  simp only at hrow
  have hpl:=HSt1.out.pl
  obtain ⟨z1,z2⟩:=HSt1.out.lt
  go_wp2
  refine bodyPost_ret (v:=.tuple #[.agg (cN lb lq (.slice a1 n1 c1) (.slice a2 n2 c2) nn (.slice a3 n3 c3)),.slice fa fn fc,.slice none 0 0,.int .i64 0,.int .i64 1]) (ret_N5 Tryz.results125 _ _ rfl ?c1) rfl ⟨_,_,_,by rw [HZ.out],?c2⟩
  case c1=>exact row_set _ hpl
  case c2 =>
   rw [HZ.out]
   obtain ⟨q1,q2,q3⟩:=HSt1.out.ret
   exact ⟨q1,q2,q3,Is.nil _ _ _ _⟩
 have hrr:=HR1.out
 rw [Bool.and_eq_true] at hrr
 have hrt:=rightN_iff.1 hrr.1
 have HRt:=lH hrt
 obtain ⟨C,hC⟩:∃ C,place (bu,se,nn) ow s p q rest=C:=⟨_,rfl⟩
 have HC:=lH hC
 have HPl:Hid (R=if C.2.2.2.2=0 then (if (stl lb lq s C.2.1 od 0 0).2.2.2=0 then fin (lb,lq,(bu,se,nn),od) fr ow s p C (stl lb lq s C.2.1 od 0 0) else ((lb,lq,(bu,se,nn),od),fr,[],0,(stl lb lq s C.2.1 od 0 0).2.2.2)) else ((lb,lq,(bu,se,nn),od),fr,[],0,C.2.2.2.2)):=lH (by
  rw [← HR.out];unfold placeN;rw [HR1.out,if_pos rfl];simp only;rw [hC])
 clear hrr hrt hC
 obtain ⟨_,_,r2,r3,r4,_⟩:=HSt1.out.lb.cells
 simp only at r2 r3 r4
 have z1:=HSt1.out.lt.1
 have hbw1:Below w.heap.size w w1:=HSt1.out.bel
 go_wp2_with fail
 refine (placeB_is HC hm1 hm2 hm3 hm4 B _ w1 HSt1.out.lb.bl (HB.out w1 hbw1)).mono ?_
 rintro e w5 ⟨b1,k1,d1,b2,k2,d2,n',ga,gn,gc,rfl,hnn',hgn,hb5,hlb1,hlb2,hfl⟩
 clear r2 r3 r4 z1
 obtain ⟨lf,hlf⟩:∃ lf,C.2.2.1=lf:=⟨_,rfl⟩
 obtain ⟨id,hid⟩:∃ id,C.2.2.2.1=id:=⟨_,rfl⟩
 obtain ⟨er,her⟩:∃ er,C.2.2.2.2=er:=⟨_,rfl⟩
 rw [hlf,hid,her]
 have HQ:=lH (show C.2.2.1=lf∧C.2.2.2.1=id∧C.2.2.2.2=er∧C.1.2.2=n'∧C.2.1.length=gn from ⟨hlf,hid,her,hnn',hgn⟩)
 obtain ⟨M5,hM5⟩:∃ M,M=w5.alloc (.cells #[.slice b1 k1 d1,.slice b2 k2 d2,.int .i64 n'] 57):=⟨_,rfl⟩
 have hbM5:Below w5.heap.size w5 M5:=hM5 ▸ below1 w5 _
 have HSt5:=lH ((HSt1.out.stays hb5).stays hbM5)
 have hst5':=HSt1.out.stays hb5
 have HBk:=lH (show ∀ u,Below M5.heap.size M5 u→u.heap[w5.heap.size]?=some (.cells #[.slice b1 k1 d1,.slice b2 k2 d2,.int .i64 n'] 57 (0,0))∧LL B C.1.1 (.slice b1 k1 d1) u∧LL B C.1.2.1 (.slice b2 k2 d2) u∧FL B C.2.1 (.slice ga gn gc) u from fun u hu=>by
  have hb:=nx hbM5 hu
  have hbk:M5.heap[w5.heap.size]?=some (.cells #[.slice b1 k1 d1,.slice b2 k2 d2,.int .i64 n'] 57 (0,0)):=by rw [hM5];exact heap_alloc_new w5 _
  refine ⟨(hu.block _ (Array.getElem?_eq_some_iff.1 hbk).1).trans hbk,Is.stays eL 106 hlb1 hb,Is.stays eL 106 hlb2 hb,Is.stays eFl 159 hfl hb⟩)
 have HZ5:=lH hst5'.lt.2
 have HM5:=lH hM5
 clear hlf hid her hnn' hgn hlb1 hlb2 hfl hM5 hst5'
 go_upto_region 4 with fail
 rw [← HM5.out]
 by_cases hne:er≠0
 ·have hde:(er != 0)=true:=by simpa using hne
  have HZ:Hid (R=((lb,lq,(bu,se,nn),od),fr,[],0,er)):=lH (by rw [HPl.out,HQ.out.2.2.1,if_neg hne])
  clear hne
  have hrow:=HSt5.out.lb.row
  simp only at hrow
  have hpl:=HSt5.out.pl
  obtain ⟨z1,z2⟩:=HSt5.out.lt
  go_wp2
  refine bodyPost_ret (v:=.tuple #[.agg (cN lb lq (.slice a1 n1 c1) (.slice a2 n2 c2) nn (.slice a3 n3 c3)),.slice fa fn fc,.slice none 0 0,.int .i64 0,.int .i64 er]) (ret_N5 Tryz.results125 _ _ rfl ?c1) rfl ⟨_,_,_,by rw [HZ.out],?c2⟩
  case c1=>exact row_set _ hpl
  case c2 =>
   rw [HZ.out]
   obtain ⟨q1,q2,q3⟩:=HSt5.out.ret
   exact ⟨q1,q2,q3,Is.nil _ _ _ _⟩
 obtain rfl:0=er:=by have:er=0:=(by simpa using hne);exact this.symm
 clear hne
 have hPN:PlN lb lq (bu,se,nn) ow s p C:=by rw [← HC.out];exact place_n HRt.out.book (by rw [HC.out];exact HQ.out.2.2.1)
 have HPN:=lH hPN
 obtain ⟨S,hS⟩:∃ S,stl lb lq s C.2.1 od 0 0=S:=⟨_,rfl⟩
 have HS:=lH hS
 have HP2:Hid (R=if S.2.2.2=0 then fin (lb,lq,(bu,se,nn),od) fr ow s p C S else ((lb,lq,(bu,se,nn),od),fr,[],0,S.2.2.2)):=lH (by rw [HPl.out,HQ.out.2.2.1,if_pos rfl,hS])
 have hrow:=HSt5.out.lb.row
 simp only at hrow
 have z1:=HSt5.out.lt.1
 obtain ⟨M,hM⟩:∃ M,M=M5.alloc (.cells (cN lb lq (.slice a1 n1 c1) (.slice a2 n2 c2) nn (.slice a3 n3 c3)) 137):=⟨_,rfl⟩
 have hbM:Below M5.heap.size M5 M:=hM ▸ below1 M5 _
 have HStM:=lH (HSt5.out.stays hbM)
 have HVB:=lH (show VB B (lb,lq,(bu,se,nn),od) (.slice a1 n1 c1) (.slice a2 n2 c2) (.slice a3 n3 c3) M5.heap.size M from by rw [hM];exact VB.made (l:=(lb,lq,(bu,se,nn),od)) HSt5.out.lb.l1 HSt5.out.lb.l2 HSt5.out.lb.l3 (HB.out M5 HSt5.out.bel).1)
 have HM:=lH hM
 clear hPN hS hM
 go_upto_region 7 with fail
 rw [← HM.out]
 clear hrow z1
 have hrow:=HVB.out.row
 simp only at hrow
 have z1:=HVB.out.lt
 obtain ⟨es,hes⟩:∃ x,S.2.2.2=x:=⟨_,rfl⟩
 have HEs:=lH hes
 clear hes
 go_wp2_with fail
 refine (lowe_any B (lb,lq,(bu,se,nn),od) _ s C.2.1 _ M S HS.out HVB.out.ln (HB.out M HStM.out.bel) (HBk.out M hbM).2.2.2 (fun f hf=>HPN.out.fills f hf) (Nat.le_trans HPN.out.cnt (by decide)) hm5).mono ?_
 rintro e w6 ⟨ax,nx',cx,rfl,hb6,hx6⟩
 rw [HEs.out] at hx6 ⊢
 have HSt6:=lH (HStM.out.stays hb6)
 have hb56:=nx hbM hb6
 by_cases hne:es≠0
 ·have hde:(es != 0)=true:=by simpa using hne
  have HZ:Hid (R=((lb,lq,(bu,se,nn),od),fr,[],0,es)):=lH (by rw [HP2.out,HEs.out,if_neg hne])
  clear hne hrow z1
  have hrow:=HSt6.out.lb.row
  simp only at hrow
  have hpl:=HSt6.out.pl
  obtain ⟨z1,z2⟩:=HSt6.out.lt
  go_wp2
  refine bodyPost_ret (v:=.tuple #[.agg (cN lb lq (.slice a1 n1 c1) (.slice a2 n2 c2) nn (.slice a3 n3 c3)),.slice fa fn fc,.slice none 0 0,.int .i64 0,.int .i64 es]) (ret_N5 Tryz.results125 _ _ rfl ?c1) rfl ⟨_,_,_,by rw [HZ.out],?c2⟩
  case c1=>exact row_set _ hpl
  case c2 =>
   rw [HZ.out]
   obtain ⟨q1,q2,q3⟩:=HSt6.out.ret
   exact ⟨q1,q2,q3,Is.nil _ _ _ _⟩
 obtain rfl:0=es:=by have:es=0:=(by simpa using hne);exact this.symm
 have HX6:=lH (hx6 rfl)
 have hStS:StS lb lq s C.2.1 od 0 0 S:=by rw [← HS.out];exact stl_ok HRt.out.owed (by rw [HS.out];exact HEs.out)
 obtain ⟨L,hL⟩:∃ L,L=if id=0 then 0 else lf:=⟨_,rfl⟩
 have hfin:=fin_set (l:=(lb,lq,(bu,se,nn),od)) (fr:=fr) (ow:=ow) (p:=p) (S:=S) (L:=L) HPN.out.side HPN.out.id (by rw [HQ.out.2.1,HQ.out.1];exact hL) (by have:=hStS.pays;omega) (by have:=hStS.gets;omega)
 simp only at hfin
 obtain ⟨E,hE⟩:∃ E,setE lb lq ow s fr (ndN s p L+sumP s C.2.1) (sumG s C.2.1)=E:=⟨_,rfl⟩
 rw [hE,HQ.out.2.1] at hfin
 have HE:=lH hE
 have HP3:Hid (R=if E=0 then ((lb,lq,C.1,S.1),giveL (takeL fr (ow,ndA lb lq s) (ndN s p L+sumP s C.2.1)) (ow,ndA lb lq (othS s)) (sumG s C.2.1),C.2.1,id,0) else ((lb,lq,(bu,se,nn),od),fr,[],0,E)):=lH (by rw [HP2.out,HEs.out,if_pos rfl,hfin])
 have hlf:=HPN.out.left
 rw [HQ.out.1] at hlf
 have hLb:0≤L∧L≤1048576:=by rw [hL];split<;>omega
 have HVB6:=lH (HVB.out.stays hb6)
 have HL:=lH hL
 have hid0:=HPN.out.id
 rw [HQ.out.2.1] at hid0
 have hpr:0≤p∧p≤1048576:=by have:=HPN.out.price;omega
 obtain ⟨M7,hM7⟩:∃ M,M=w6.alloc (.cells #[.int .i64 0,.int .i64 ow,.int .i64 s,.int .i64 p,.int .i64 0] 74):=⟨_,rfl⟩
 have hbM7:Below w6.heap.size w6 M7:=hM7 ▸ below1 w6 _
 have hor7:M7.heap[w6.heap.size]?=some (.cells #[.int .i64 0,.int .i64 ow,.int .i64 s,.int .i64 p,.int .i64 0] 74 (0,0)):=by rw [hM7];exact heap_alloc_new w6 _
 have HM7:=lH hM7
 have HOr7:=lH hor7
 clear hne hx6 hStS hL hE hfin hrow z1 hM7 hor7
 go_upto_region 11 with fail
 rw [← HM7.out]
 by_cases hi0:id=0
 ·have hdi:(id != 0)=false:=by simpa using hi0
  have hor:M7.heap[w6.heap.size]?=some (.cells #[.int .i64 0,.int .i64 ow,.int .i64 s,.int .i64 p,.int .i64 L] 74 (0,0)):=by rw [HL.out,if_pos hi0];exact HOr7.out
  obtain ⟨U,hU⟩:∃ U,U=M7:=⟨_,rfl⟩
  have hb7:Below w6.heap.size w6 U:=hU ▸ hbM7
  rw [← hU] at hor
  have HU:=lH hU
  clear hi0 hU
  go_upto_region 13 with fail
  rw [← HU.out]
  have HSt7:=lH (HSt6.out.stays hb7)
  have HVB7:=lH (HVB6.out.stays hb7)
  have hrow:=HVB7.out.row
  simp only at hrow
  have z1:=HVB7.out.lt
  have ro:row U w6.heap.size=#[.int .i64 0,.int .i64 ow,.int .i64 s,.int .i64 p,.int .i64 L]:=by unfold Rw.row;rw [hor]
  have zo:=(Array.getElem?_eq_some_iff.1 hor).1
  have hb57:=nx hb56 hb7
  have hcall:=lH (lsettle_any B (lb,lq,(bu,se,nn),od) _ fr _ 0 ow s p L C.2.1 _ U HVB7.out.ln HSt7.out.fr (HB.out U HSt7.out.bel) (HBk.out U hb57).2.2.2 (fun f hf=>HPN.out.fills f hf) HPN.out.cnt (by rw [HFn.out];exact hfm) HPN.out.side hpr hLb E HE.out)
  clear hor
  go_wp2_with fail
  refine hcall.out.mono ?_
  rintro e w8 ⟨a11,n11,c11,rfl,hb8,hf8⟩
  have HSt8:=lH (HSt7.out.stays hb8)
  by_cases hne2:E≠0
  ·have hde2:(E != 0)=true:=by simpa using hne2
   have HZ:Hid (R=((lb,lq,(bu,se,nn),od),fr,[],0,E)):=lH (by rw [HP3.out,if_neg hne2])
   clear hne2 hrow z1 ro zo
   have hrow:=HSt8.out.lb.row
   simp only at hrow
   have hpl:=HSt8.out.pl
   obtain ⟨z1,z2⟩:=HSt8.out.lt
   go_wp2
   refine bodyPost_ret (v:=.tuple #[.agg (cN lb lq (.slice a1 n1 c1) (.slice a2 n2 c2) nn (.slice a3 n3 c3)),.slice fa fn fc,.slice none 0 0,.int .i64 0,.int .i64 E]) (ret_N5 Tryz.results125 _ _ rfl ?c1) rfl ⟨_,_,_,by rw [HZ.out],?c2⟩
   case c1=>exact row_set _ hpl
   case c2 =>
    rw [HZ.out]
    obtain ⟨q1,q2,q3⟩:=HSt8.out.ret
    exact ⟨q1,q2,q3,Is.nil _ _ _ _⟩
  obtain rfl:E=0:=by simpa using hne2
  obtain ⟨ht0,hfl8⟩:=hf8 rfl
  obtain ⟨fin',hfin'⟩:∃ x,giveL (takeL fr (ow,ndA lb lq s) (ndN s p L+sumP s C.2.1)) (ow,ndA lb lq (othS s)) (sumG s C.2.1)=x:=⟨_,rfl⟩
  rw [hfin'] at hfl8
  have HZ:Hid (R=((lb,lq,C.1,S.1),fin',C.2.1,id,0)):=lH (by rw [HP3.out,if_pos rfl,hfin'])
  have hb68:=nx hb7 hb8
  have hb58:=nx hb56 hb68
  have hvb:=HVB6.out.stays hb68
  have hbk:=HBk.out w8 hb58
  have rb:row w8 w5.heap.size=#[.slice b1 k1 d1,.slice b2 k2 d2,.int .i64 n']:=by unfold Rw.row;rw [hbk.1]
  have zb:=(Array.getElem?_eq_some_iff.1 hbk.1).1
  obtain ⟨m0,m1,m2,m3,m4,m5⟩:=hvb.cells
  simp only at m0 m1 m2 m3 m4 m5
  have mf2:=hvb.free 2
  have mf3:=hvb.free 3
  have mf4:=hvb.free 4
  have mf5:=hvb.free 5
  have zv:=hvb.lt
  obtain ⟨Z1,hZ1⟩:∃ Z,Z=((w8.setCell ⟨M5.heap.size,2,none⟩ (.slice b1 k1 d1)).setCell ⟨M5.heap.size,3,none⟩ (.slice b2 k2 d2)).setCell ⟨M5.heap.size,4,none⟩ (.int .i64 n'):=⟨_,rfl⟩
  obtain ⟨j1,j2,j3,j4⟩:=hvb.book (bk':=C.1) (n':=n') hbk.2.1 hbk.2.2.1 HQ.out.2.2.2.1
  rw [← hZ1] at j1 j2 j3 j4
  have hloM:=hvb.lo
  have hx8:=hl_keep (hl_stays HX6.out hb68) (j2 _ (by decide) (Bs.of B.lo) hloM)
  obtain ⟨i1,i2,i3,i4⟩:=j1.owed hx8
  obtain ⟨Z,hZ⟩:∃ Z,Z=Z1.setCell ⟨M5.heap.size,5,none⟩ (.slice ax nx' cx):=⟨_,rfl⟩
  rw [← hZ] at i1 i2 i3 i4
  have hv5:w.heap.size+1<M5.heap.size:=HSt5.out.lt.2
  have hgZ:Z.heap[w.heap.size+1]?=some (.cells (nilN 0 0 0) 59 (0,0)):=(i3 _ (by omega)).trans ((j3 _ (by omega)).trans HSt8.out.g)
  have hflZ:=hl_keep (hl_keep hfl8 (j2 _ (by decide) (Bs.of B.lo) hloM)) (i2 _ (by decide) (Bs.of B.lo) hloM)
  have hfZ:=Is.keep eFl 159 (Is.keep eFl 159 hbk.2.2.2 (j2 _ (by decide) B hloM)) (i2 _ (by decide) B hloM)
  have hbZ:=(HSt8.out.bel.trans (j4 w.heap.size (by omega))).trans (i4 w.heap.size (by omega))
  have hrowZ:=i1.row
  simp only at hrowZ
  rw [HQ.out.2.2.2.1] at hrowZ
  have zz:=i1.lt
  have hplZ:plain 6 Z (w.heap.size+1)=true:=by simp [Rw.plain,hgZ]
  have zg:=(Array.getElem?_eq_some_iff.1 hgZ).1
  have HZ1:=lH i1
  have HZ2:=lH hgZ
  have HZ3:=lH hflZ
  have HZ4:=lH hfZ
  have HZ5':=lH hbZ
  rw [hZ,hZ1] at hrowZ zz hplZ zg
  have HZe:=lH hZ
  have HZe1:=lH hZ1
  clear i1 i2 i3 i4 j1 j2 j3 j4 hgZ hflZ hfZ hbZ hx8 hbk hvb hf8 ht0 hfl8 hZ hZ1 hv5 hrow z1 ro zo hfin' hloM hne2
  go_wp2
  rw [← HZe1.out,← HZe.out]
  refine bodyPost_ret (v:=.tuple #[.agg (cN lb lq (.slice b1 k1 d1) (.slice b2 k2 d2) n' (.slice ax nx' cx)),.slice a11 n11 c11,.slice ga gn gc,.int .i64 id,.int .i64 0]) (ret_N5 Tryz.results125 _ _ rfl ?c1) rfl ⟨_,_,_,by rw [HZ.out],?c2⟩
  case c1 =>
   have hpl':plain 6 Z (w.heap.size+1)=true:=by simp [Rw.plain,HZ2.out]
   exact row_set _ hpl'
  case c2 =>
   rw [HZ.out]
   have hlo1:B.lo≤w.heap.size+1:=by have:=HSt5.out.lb.lo;omega
   have hkk:∀ A:Bs,A.lo≤w.heap.size+1→∀ ts,59 ∉ ts→Da.Keeps A ts Z (Z.setRow (w.heap.size+1) (cN lb lq (.slice b1 k1 d1) (.slice b2 k2 d2) n' (.slice ax nx' cx))):=fun A hA ts ht=>keeps_setRow _ HZ2.out ht hA
   exact ⟨below_setRow HZ5'.out (by omega) _,⟨.slice b1 k1 d1,.slice b2 k2 d2,.slice ax nx' cx,by rw [HQ.out.2.2.2.1],Is.keep eL 106 HZ1.out.l1 (hkk _ hlo1 _ (by decide)),Is.keep eL 106 HZ1.out.l2 (hkk _ hlo1 _ (by decide)),hl_keep HZ1.out.l3 (hkk (Bs.of B.lo) hlo1 _ (by decide))⟩,hl_keep HZ3.out (hkk (Bs.of B.lo) hlo1 _ (by decide)),Is.keep eFl 159 HZ4.out (hkk B hlo1 _ (by decide))⟩
 ·have hdi:(id != 0)=true:=by simpa using hi0
  obtain ⟨U,hU⟩:∃ U,U=M7.setCell ⟨w6.heap.size,4,none⟩ (.int .i64 lf):=⟨_,rfl⟩
  have hor:U.heap[w6.heap.size]?=some (.cells #[.int .i64 0,.int .i64 ow,.int .i64 s,.int .i64 p,.int .i64 L] 74 (0,0)):=by
   rw [hU,HL.out,if_neg hi0]
   exact setN 4 (.int .i64 lf) HOr7.out
  have hb7:Below w6.heap.size w6 U:=by rw [hU];exact hbM7.trans (low_setCell 4 _ (Nat.le_refl _))
  have hf4:M7.frozen? ⟨w6.heap.size,4,none⟩=false:=by have:=HOr7.out;simp [World.frozen?,this]
  have hc4:M7.cell? ⟨w6.heap.size,4,none⟩=some (.int .i64 0):=by have:=HOr7.out;simp [World.cell?,this]
  have hz7:=(Array.getElem?_eq_some_iff.1 HOr7.out).1
  have HU:=lH hU
  clear hi0 hU
  go_upto_region 13 with fail
  rw [← HU.out]
  clear hf4 hc4 hz7
  have HSt7:=lH (HSt6.out.stays hb7)
  have HVB7:=lH (HVB6.out.stays hb7)
  have hrow:=HVB7.out.row
  simp only at hrow
  have z1:=HVB7.out.lt
  have ro:row U w6.heap.size=#[.int .i64 0,.int .i64 ow,.int .i64 s,.int .i64 p,.int .i64 L]:=by unfold Rw.row;rw [hor]
  have zo:=(Array.getElem?_eq_some_iff.1 hor).1
  have hb57:=nx hb56 hb7
  have hcall:=lH (lsettle_any B (lb,lq,(bu,se,nn),od) _ fr _ 0 ow s p L C.2.1 _ U HVB7.out.ln HSt7.out.fr (HB.out U HSt7.out.bel) (HBk.out U hb57).2.2.2 (fun f hf=>HPN.out.fills f hf) HPN.out.cnt (by rw [HFn.out];exact hfm) HPN.out.side hpr hLb E HE.out)
  clear hor
  go_wp2_with fail
  refine hcall.out.mono ?_
  rintro e w8 ⟨a11,n11,c11,rfl,hb8,hf8⟩
  have HSt8:=lH (HSt7.out.stays hb8)
  by_cases hne2:E≠0
  ·have hde2:(E != 0)=true:=by simpa using hne2
   have HZ:Hid (R=((lb,lq,(bu,se,nn),od),fr,[],0,E)):=lH (by rw [HP3.out,if_neg hne2])
   clear hne2 hrow z1 ro zo
   have hrow:=HSt8.out.lb.row
   simp only at hrow
   have hpl:=HSt8.out.pl
   obtain ⟨z1,z2⟩:=HSt8.out.lt
   go_wp2
   refine bodyPost_ret (v:=.tuple #[.agg (cN lb lq (.slice a1 n1 c1) (.slice a2 n2 c2) nn (.slice a3 n3 c3)),.slice fa fn fc,.slice none 0 0,.int .i64 0,.int .i64 E]) (ret_N5 Tryz.results125 _ _ rfl ?c1) rfl ⟨_,_,_,by rw [HZ.out],?c2⟩
   case c1=>exact row_set _ hpl
   case c2 =>
    rw [HZ.out]
    obtain ⟨q1,q2,q3⟩:=HSt8.out.ret
    exact ⟨q1,q2,q3,Is.nil _ _ _ _⟩
  obtain rfl:E=0:=by simpa using hne2
  obtain ⟨ht0,hfl8⟩:=hf8 rfl
  obtain ⟨fin',hfin'⟩:∃ x,giveL (takeL fr (ow,ndA lb lq s) (ndN s p L+sumP s C.2.1)) (ow,ndA lb lq (othS s)) (sumG s C.2.1)=x:=⟨_,rfl⟩
  rw [hfin'] at hfl8
  have HZ:Hid (R=((lb,lq,C.1,S.1),fin',C.2.1,id,0)):=lH (by rw [HP3.out,if_pos rfl,hfin'])
  have hb68:=nx hb7 hb8
  have hb58:=nx hb56 hb68
  have hvb:=HVB6.out.stays hb68
  have hbk:=HBk.out w8 hb58
  have rb:row w8 w5.heap.size=#[.slice b1 k1 d1,.slice b2 k2 d2,.int .i64 n']:=by unfold Rw.row;rw [hbk.1]
  have zb:=(Array.getElem?_eq_some_iff.1 hbk.1).1
  obtain ⟨m0,m1,m2,m3,m4,m5⟩:=hvb.cells
  simp only at m0 m1 m2 m3 m4 m5
  have mf2:=hvb.free 2
  have mf3:=hvb.free 3
  have mf4:=hvb.free 4
  have mf5:=hvb.free 5
  have zv:=hvb.lt
  obtain ⟨Z1,hZ1⟩:∃ Z,Z=((w8.setCell ⟨M5.heap.size,2,none⟩ (.slice b1 k1 d1)).setCell ⟨M5.heap.size,3,none⟩ (.slice b2 k2 d2)).setCell ⟨M5.heap.size,4,none⟩ (.int .i64 n'):=⟨_,rfl⟩
  obtain ⟨j1,j2,j3,j4⟩:=hvb.book (bk':=C.1) (n':=n') hbk.2.1 hbk.2.2.1 HQ.out.2.2.2.1
  rw [← hZ1] at j1 j2 j3 j4
  have hloM:=hvb.lo
  have hx8:=hl_keep (hl_stays HX6.out hb68) (j2 _ (by decide) (Bs.of B.lo) hloM)
  obtain ⟨i1,i2,i3,i4⟩:=j1.owed hx8
  obtain ⟨Z,hZ⟩:∃ Z,Z=Z1.setCell ⟨M5.heap.size,5,none⟩ (.slice ax nx' cx):=⟨_,rfl⟩
  rw [← hZ] at i1 i2 i3 i4
  have hv5:w.heap.size+1<M5.heap.size:=HSt5.out.lt.2
  have hgZ:Z.heap[w.heap.size+1]?=some (.cells (nilN 0 0 0) 59 (0,0)):=(i3 _ (by omega)).trans ((j3 _ (by omega)).trans HSt8.out.g)
  have hflZ:=hl_keep (hl_keep hfl8 (j2 _ (by decide) (Bs.of B.lo) hloM)) (i2 _ (by decide) (Bs.of B.lo) hloM)
  have hfZ:=Is.keep eFl 159 (Is.keep eFl 159 hbk.2.2.2 (j2 _ (by decide) B hloM)) (i2 _ (by decide) B hloM)
  have hbZ:=(HSt8.out.bel.trans (j4 w.heap.size (by omega))).trans (i4 w.heap.size (by omega))
  have hrowZ:=i1.row
  simp only at hrowZ
  rw [HQ.out.2.2.2.1] at hrowZ
  have zz:=i1.lt
  have hplZ:plain 6 Z (w.heap.size+1)=true:=by simp [Rw.plain,hgZ]
  have zg:=(Array.getElem?_eq_some_iff.1 hgZ).1
  have HZ1:=lH i1
  have HZ2:=lH hgZ
  have HZ3:=lH hflZ
  have HZ4:=lH hfZ
  have HZ5':=lH hbZ
  rw [hZ,hZ1] at hrowZ zz hplZ zg
  have HZe:=lH hZ
  have HZe1:=lH hZ1
  clear i1 i2 i3 i4 j1 j2 j3 j4 hgZ hflZ hfZ hbZ hx8 hbk hvb hf8 ht0 hfl8 hZ hZ1 hv5 hrow z1 ro zo hfin' hloM hne2
  go_wp2
  rw [← HZe1.out,← HZe.out]
  refine bodyPost_ret (v:=.tuple #[.agg (cN lb lq (.slice b1 k1 d1) (.slice b2 k2 d2) n' (.slice ax nx' cx)),.slice a11 n11 c11,.slice ga gn gc,.int .i64 id,.int .i64 0]) (ret_N5 Tryz.results125 _ _ rfl ?c1) rfl ⟨_,_,_,by rw [HZ.out],?c2⟩
  case c1 =>
   have hpl':plain 6 Z (w.heap.size+1)=true:=by simp [Rw.plain,HZ2.out]
   exact row_set _ hpl'
  case c2 =>
   rw [HZ.out]
   have hlo1:B.lo≤w.heap.size+1:=by have:=HSt5.out.lb.lo;omega
   have hkk:∀ A:Bs,A.lo≤w.heap.size+1→∀ ts,59 ∉ ts→Da.Keeps A ts Z (Z.setRow (w.heap.size+1) (cN lb lq (.slice b1 k1 d1) (.slice b2 k2 d2) n' (.slice ax nx' cx))):=fun A hA ts ht=>keeps_setRow _ HZ2.out ht hA
   exact ⟨below_setRow HZ5'.out (by omega) _,⟨.slice b1 k1 d1,.slice b2 k2 d2,.slice ax nx' cx,by rw [HQ.out.2.2.2.1],Is.keep eL 106 HZ1.out.l1 (hkk _ hlo1 _ (by decide)),Is.keep eL 106 HZ1.out.l2 (hkk _ hlo1 _ (by decide)),hl_keep HZ1.out.l3 (hkk (Bs.of B.lo) hlo1 _ (by decide))⟩,hl_keep HZ3.out (hkk (Bs.of B.lo) hlo1 _ (by decide)),Is.keep eFl 159 HZ4.out (hkk B hlo1 _ (by decide))⟩
end Go.Proofs.YtjhocpcpkemcaaaGreat.La
namespace Go.Proofs.YtjhocpcpkemcaaaGreat.Ex
open Go.RowKit
open Rw
open Da
open Le (LL eL Lv flat low_setCell keeps_setCell)
open La (Ln LN LB cN eH hl_is is_hl placeN cancelN collectN)
open Ac (Hd Pu HL)
open Bk (Fl FL eFl sumQ bestP BL)
open Cm (fc fc_at laneB)
theorem ln_three {n:Nat} {l:Ln} {v:Value} {w:World} (h:LN (Bs.of n) l v w):∃ a1 n1 c1 a2 n2 c2 a3 n3 c3,v=.agg (cN l.1 l.2.1 (.slice a1 n1 c1) (.slice a2 n2 c2) l.2.2.1.2.2 (.slice a3 n3 c3))∧LL (Bs.of n) l.2.2.1.1 (.slice a1 n1 c1) w∧LL (Bs.of n) l.2.2.1.2.1 (.slice a2 n2 c2) w∧HL n l.2.2.2 (.slice a3 n3 c3) w:=by
 obtain ⟨a1,n1,c1,a2,n2,c2,a3,n3,c3,e,_,_,_,h1,h2,h3⟩:=h.open'
 exact ⟨a1,n1,c1,a2,n2,c2,a3,n3,c3,e,h1,h2,h3⟩
theorem in_place (n Bo g d b ix:Nat) (x:Xc) (f s i o:Value) (c:Nat→Int) (rs:Bool) (w:World) (h:XL n Bo x f s i o g d b w) (hs:SmX x) (hi:ix<x.lanes.length) (h3:c 3=ix) (hk:(c 2=3∧rs=true)∨(c 2=4∧rs=false)) :
  Calls Tryz.prog 87 #[.pointer (some ⟨g,ix*6,none⟩),.pointer (some ⟨b,0,none⟩),.agg (fc c)] w (PostE n Bo s g d b (execL x c) w):=by
 obtain ⟨a1,n1,c1,a2,n2,c2,a3,n3,c3,-,-,-,r0,r1,r2,r3,r4,r5⟩:=h.at hi
 have hsl:=hs.lane _ (List.getElem_mem hi)
 have hQ:=execL_in (x:=x) (c:=c) (l:=x.lanes[ix]) (by rw [h3];exact List.getElem?_eq_getElem hi)
 rw [show (c 3).toNat=ix by rw [h3];rfl] at hQ
 obtain ⟨ln,hln⟩:∃ ln,x.lanes[ix]=ln:=⟨_,rfl⟩
 rw [hln] at r0 r1 r4 hsl hQ
 obtain ⟨l1,e1⟩:∃ q,ln.1=q:=⟨_,rfl⟩
 obtain ⟨l2,e2⟩:∃ q,ln.2.1=q:=⟨_,rfl⟩
 obtain ⟨l3,e3⟩:∃ q,ln.2.2.1.2.2=q:=⟨_,rfl⟩
 rw [e1] at r0
 rw [e2] at r1
 rw [e3] at r4
 obtain ⟨af,cf,rfl⟩:=La.hl_slice h.box.d.free
 obtain ⟨m1,q1⟩:∃ q,x.free.length=q:=⟨_,rfl⟩
 rw [q1] at h
 obtain ⟨C,hC⟩:∃ C,placeN ln x.free (c 0) (c 6) (c 7) (c 8) rs=C:=⟨_,rfl⟩
 have HFF:=lH (show C.2.2.1.length≤40∧∀ f∈C.2.2.1,0≤f.2.2.2.1∧f.2.2.2.1≤1048576 from hC ▸ place_fills2 ln x.free (c 0) (c 6) (c 7) (c 8) rs)
 rw [show act ln x.free c=(C.1,C.2.1,C.2.2.2.2,C.2.2.2.1,sumQ C.2.2.1) from by
  have e:(c 2==3)=rs:=by rcases hk with ⟨a,b⟩ | ⟨a,b⟩<;>rw [a,b]<;>rfl
  unfold act;rw [if_pos (by rcases hk with ⟨a,_⟩ | ⟨a,_⟩<;>simp [a]),e,hC]] at hQ
 obtain ⟨V,hV⟩:∃ V,V=w.alloc (.cells (fc c) 35):=⟨_,rfl⟩
 have hbV:Below w.heap.size w V:=hV ▸ below1 w _
 have hcb:V.heap[w.heap.size]?=some (.cells (fc c) 35 (0,0)):=by rw [hV];exact heap_alloc_new _ _
 have hgs:g<w.heap.size:=h.lot.ls.1
 have hbs:b<w.heap.size:=h.box.lt
 have hF:∀ u,Alt (gb g b) V u→u.cell? ⟨w.heap.size,0,none⟩=some (.int .i64 (c 0))∧u.cell? ⟨w.heap.size,2,none⟩=some (.int .i64 (c 2))∧u.cell? ⟨w.heap.size,6,none⟩=some (.int .i64 (c 6))∧u.cell? ⟨w.heap.size,7,none⟩=some (.int .i64 (c 7))∧u.cell? ⟨w.heap.size,8,none⟩=some (.int .i64 (c 8)):=fun u hu=>by
  have e:=(hu.block _ (lt_of_some hcb) (fun e=>by rcases e with e | e<;>omega)).trans hcb
  exact ⟨(cell_is e).trans (fc_at c 0 (by decide)),(cell_is e).trans (fc_at c 2 (by decide)),(cell_is e).trans (fc_at c 6 (by decide)),(cell_is e).trans (fc_at c 7 (by decide)),(cell_is e).trans (fc_at c 8 (by decide))⟩
 have HLd:=lH (show ∀ u,Below V.heap.size V u→u.cell? ⟨b,0,none⟩=some (.slice af m1 cf)∧u.cell? ⟨g,ix*6,none⟩=some (.int .i64 l1)∧u.cell? ⟨g,ix*6+1,none⟩=some (.int .i64 l2)∧u.cell? ⟨g,ix*6+2,none⟩=some (.slice a1 n1 c1)∧u.cell? ⟨g,ix*6+3,none⟩=some (.slice a2 n2 c2)∧u.cell? ⟨g,ix*6+4,none⟩=some (.int .i64 l3)∧u.cell? ⟨g,ix*6+5,none⟩=some (.slice a3 n3 c3) from fun u hu=>by
  have k:=nx hbV hu
  have e:=k.block g hgs
  exact ⟨(h.box.stays k).cells.1,(World.cell?_of_block (w:=w) e).trans r0,(World.cell?_of_block (w:=w) e).trans r1,(World.cell?_of_block (w:=w) e).trans r2,(World.cell?_of_block (w:=w) e).trans r3,(World.cell?_of_block (w:=w) e).trans r4,(World.cell?_of_block (w:=w) e).trans r5⟩)
 have HLn:=lH (show ∀ u,Below V.heap.size V u→LN (Bs.of n) ln (.agg #[.int .i64 l1,.int .i64 l2,.slice a1 n1 c1,.slice a2 n2 c2,.int .i64 l3,.slice a3 n3 c3]) u∧HL n x.free (.slice af m1 cf) u∧(Bs.of n).le u.heap.size from fun u hu=>by
  have k:=nx hbV hu
  obtain ⟨a1',n1',c1',a2',n2',c2',a3',n3',c3',h1,h2,h3,-,-,t2,t3,-,t5⟩:=h.at hi
  rw [r2] at t2;rw [r3] at t3;rw [r5] at t5
  injection t2 with t2;injection t3 with t3;injection t5 with t5
  rw [← t2,hln] at h1;rw [← t3,hln] at h2;rw [← t5,hln] at h3
  exact ⟨⟨_,_,_,by rw [e1,e2,e3],Is.stays _ _ h1 k,Is.stays _ _ h2 k,La.hl_stays h3 k⟩,La.hl_stays h.box.d.free k,⟨Nat.le_trans h.lot.lo (by have:=k.size;omega),fun _ h=>h.elim⟩⟩)
 have HC:=lH hC
 have HQ:=lH hQ
 have HSL:=lH hsl
 have HM:=lH (show x.free.length≤1000 from hs.free)
 have HH:=lH h
 have HB:=lH hbV
 have HI:=lH hi
 have T0:(c 2==3)=true∧rs=true∨(c 2==3)=false∧(c 2==4)=true∧rs=false:=by rcases hk with ⟨a,b⟩ | ⟨a,b⟩<;>rw [a,b]<;>decide
 have t2c:=(hF V (Alt.refl _ _)).2.1
 have HV:=lH hV
 clear hV hC hQ hsl hs h hcb hbV hi r0 r1 r2 r3 r4 r5 q1 e1 e2 e3 h3 hk hln
 rcases T0 with ⟨T1,rfl⟩ | ⟨T1,T2,rfl⟩
 all_goals
  go_enter Tryz.func87,Tryz.ntmps87
  go_wp2_with fail
  rw [← HV.out]
  refine Rh.rg (fun u=>Alt (gb g b) V u) (fun u=>Below V.heap.size V u) (fun _ _ h k=>h.trans (Alt.of_below k)) (fun _ _ h k=>nx h k) (Alt.of_below (Below.refl _ _).drew) ((Below.refl _ _).drew) [0,1,2,3,5,6,8,9,10,11,12,13,14,15,16,4,7,17,18,19,20,21,22,23,24,25,26,27,28,29,30] ?_
  repeat (first | (refine Rh.Steps.sk ?_;simp only [Act.put,sA,sB,sC]) | (refine Rh.Steps.pu (v:=?_) ?_ ?_;rotate_left;(intro w_ hS_;have hk_:=hF w_ hS_;go_simp<;>with_reducible rfl);simp only [Act.put,sA,sB,sC]))
  refine La.steps_two (i:=4) (j:=7) (ord':=[4,17,18,19,20,21,22,23,24,25,26,27,28,29,30]) (by kernel_rfl) rfl ?_ ?_
  ·refine Rh.One.val (fun v _=>v=.agg #[.int .i64 l1,.int .i64 l2,.slice a1 n1 c1,.slice a2 n2 c2,.int .i64 l3,.slice a3 n3 c3]) (fun _ _ _ h _=>h) (by rfl) (by rfl) ?_ ?_
   ·intro w_ _ hG_
    obtain ⟨k0,k1,k2,k3,k4,k5,k6⟩:=HLd.out w_ hG_
    refine ⟨.agg #[.int .i64 l1,.int .i64 l2,.slice a1 n1 c1,.slice a2 n2 c2,.int .i64 l3,.slice a3 n3 c3],w_,?_,Below.refl _ _,rfl⟩
    go_simp
   intro v0 u0 hv0
   subst hv0
   simp only [Act.put,sA,sB,sC]
   refine Rh.Steps.forced (i:=7) (by kernel_rfl) ?_
   refine Rh.One.val (fun v _=>v=.slice af m1 cf) (fun _ _ _ h _=>h) (by rfl) (by rfl) ?_ ?_
   ·intro w_ _ hG_
    obtain ⟨k0,_⟩:=HLd.out w_ hG_.1
    refine ⟨.slice af m1 cf,w_,?_,Below.refl _ _,rfl⟩
    clear hG_
    go_simp
   intro v0 u0 hv0
   subst hv0
   simp only [Act.put,sA,sB,sC]
   refine Rh.Steps.forced (i:=17) (by kernel_rfl) ?_
   refine Rh.One.call (NV n C.1 C.2.1 (fun r u=>∃ t,r=[t,.int .i64 C.2.2.2.1,.int .i64 C.2.2.2.2]∧FL (Bs.of n) C.2.2.1 t u)) (fun _ _ _ h k=>NV.stays (fun r w w' h k=>by obtain ⟨t,e,h⟩:=h;exact ⟨t,e,Is.stays _ _ h k⟩) h k) (f:=?_) (args:=?_) (by rfl) (by rfl) ?_ ?_ ?_
   rotate_left 2
   ·intro w_ hS_ hG_;go_simp<;>first | with_reducible rfl | (constructor<;>with_reducible rfl)
   ·intro w_ hS_ hG_;(go_at_call 125;refine (La.lplace_any (Bs.of n) ln _ x.free _ (c 0) (c 6) (c 7) (c 8) _ w_ (HLn.out w_ hG_.1.1).1 (HLn.out w_ hG_.1.1).2.1 (HLn.out w_ hG_.1.1).2.2 HSL.out HM.out).mono ?_;rintro e w' ⟨v,fv,gv,rfl,hb,hl,hf,hg⟩;rw [HC.out] at hl hf hg ⊢;obtain ⟨b1,o1,p1,b2,o2,p2,b3,o3,p3,rfl,l1,l2,l3⟩:=ln_three hl;obtain ⟨b4,p4,rfl⟩:=La.hl_slice hf;exact ⟨_,rfl,hb,_,_,_,_,_,_,_,_,_,_,_,_,_,rfl,l1,l2,l3,hf,_,rfl,hg⟩)
   intro v2 u_ hv2
   simp only [Act.put,sA,sB,sC]
   obtain ⟨b1,o1,p1,b2,o2,p2,b3,o3,p3,b4,o4,p4,_,rfl,-,-,-,-,t5,rfl,hfl⟩:=hv2
   obtain ⟨b5,p5,rfl⟩:=hfl.len
   repeat (first | (refine Rh.Steps.sk ?_;simp only [Act.put,sA,sB,sC]) | (refine Rh.Steps.pu (v:=?_) ?_ ?_;rotate_left;(intro w_ hS_;skip;go_simp<;>with_reducible rfl);simp only [Act.put,sA,sB,sC]))
   refine Rh.Steps.forced (i:=25) (by kernel_rfl) ?_
   refine Rh.One.store (fun u=>XL n Bo { x with lanes:=x.lanes.set ix C.1 } (.slice af m1 cf) s i o g d b u∧HL n C.2.1 (.slice b4 o4 p4) u∧FL (Bs.of n) C.2.2.1 (.slice b5 C.2.2.1.length p5) u) (fun _ _ h k=>⟨h.1.stays k,La.hl_stays h.2.1 k,Is.stays _ _ h.2.2 k⟩) (by rfl) (by rfl) ?_ ?_
   ·intro w_ hS_ hG_
    obtain ⟨⟨⟨t0,_⟩,_⟩,t1⟩:=hG_
    obtain ⟨y1,y2,y3,y4,y5⟩:=t1.inv
    obtain ⟨t5,e5,y5⟩:=y5
    obtain rfl:=(List.cons.inj e5).1
    obtain ⟨z1,z2,z3⟩:=(HH.out.stays (nx HB.out t0)).lane HI.out y1 y2 y3
    refine ⟨w_.setCells g (ix*6) [.int .i64 C.1.1,.int .i64 C.1.2.1,.slice b1 o1 p1,.slice b2 o2 p2,.int .i64 C.1.2.2.1.2.2,.slice b3 o3 p3],?_,alt_lane hS_,z2,La.hl_keep y4 (z3 _ (by decide)),Is.keep _ _ y5 (z3 _ (by decide))⟩
    clear t0 t1 y1 y2 y3 y4 y5 z2 z3
    go_simp
   repeat (first | (refine Rh.Steps.sk ?_;simp only [Act.put,sA,sB,sC]) | (refine Rh.Steps.pu (v:=?_) ?_ ?_;rotate_left;(intro w_ hS_;skip;go_simp<;>with_reducible rfl);simp only [Act.put,sA,sB,sC]))
   refine Rh.Steps.forced (i:=27) (by kernel_rfl) ?_
   refine Rh.One.store (fun u=>XL n Bo { x with lanes:=x.lanes.set ix C.1,free:=C.2.1 } (.slice b4 o4 p4) s i o g d b u∧FL (Bs.of n) C.2.2.1 (.slice b5 C.2.2.1.length p5) u) (fun _ _ h k=>⟨h.1.stays k,Is.stays _ _ h.2 k⟩) (by rfl) (by rfl) ?_ ?_
   ·intro w_ hS_ hG_
    have k0:=hG_.1.box.cells.1
    have k1:=hG_.1.box.thawed 0
    have k2:=hG_.1.free (fr:=C.2.1) hG_.2.1
    have k3:FL (Bs.of n) C.2.2.1 (.slice b5 C.2.2.1.length p5) (w_.setCell ⟨b,0,none⟩ (.slice b4 o4 p4)):=Is.keep _ _ hG_.2.2 (keeps_setCell 0 _ hG_.1.box.bk (by decide) hG_.1.box.lo)
    refine ⟨w_.setCell ⟨b,0,none⟩ (.slice b4 o4 p4),?_,alt_free hS_,k2,k3⟩
    clear k2 hG_ k3
    go_simp
   repeat (first | (refine Rh.Steps.sk ?_;simp only [Act.put,sA,sB,sC]) | (refine Rh.Steps.pu (v:=?_) ?_ ?_;rotate_left;(intro w_ hS_;skip;go_simp<;>with_reducible rfl);simp only [Act.put,sA,sB,sC]))
   refine Rh.Steps.nil (by kernel_rfl) ?_
   intro w5 hS5 hG5
   have HA:=lH ((Alt.of_below HB.out).trans hS5)
   have HG:=lH hG5
   clear hG5 hS5 hF
   go_wp2_with fail
   refine (quantity_any (Bs.of n) C.2.2.1 _ w5 HG.out.2 (Nat.le_trans HFF.out.1 (by decide)) HFF.out.2).mono ?_
   rintro e w6 ⟨rfl,hb6⟩
   have hf:=(lH (And.intro (HA.out.trans (Alt.of_below hb6)) (HG.out.1.stays hb6)))
   clear hb6
   go_wp2
   go_ret3
   exact ⟨_,_,_,by rw [HQ.out]<;>rfl,hf.out.1,by rw [HQ.out];exact hf.out.2⟩
  ·refine Rh.One.val (fun v _=>v=.slice af m1 cf) (fun _ _ _ h _=>h) (by rfl) (by rfl) ?_ ?_
   ·intro w_ _ hG_
    obtain ⟨k0,_⟩:=HLd.out w_ hG_
    refine ⟨.slice af m1 cf,w_,?_,Below.refl _ _,rfl⟩
    go_simp
   intro v0 u0 hv0
   subst hv0
   simp only [Act.put,sA,sB,sC]
   refine Rh.Steps.forced (i:=4) (by kernel_rfl) ?_
   refine Rh.One.val (fun v _=>v=.agg #[.int .i64 l1,.int .i64 l2,.slice a1 n1 c1,.slice a2 n2 c2,.int .i64 l3,.slice a3 n3 c3]) (fun _ _ _ h _=>h) (by rfl) (by rfl) ?_ ?_
   ·intro w_ _ hG_
    obtain ⟨k0,k1,k2,k3,k4,k5,k6⟩:=HLd.out w_ hG_.1
    refine ⟨.agg #[.int .i64 l1,.int .i64 l2,.slice a1 n1 c1,.slice a2 n2 c2,.int .i64 l3,.slice a3 n3 c3],w_,?_,Below.refl _ _,rfl⟩
    clear hG_
    go_simp
   intro v0 u0 hv0
   subst hv0
   simp only [Act.put,sA,sB,sC]
   refine Rh.Steps.forced (i:=17) (by kernel_rfl) ?_
   refine Rh.One.call (NV n C.1 C.2.1 (fun r u=>∃ t,r=[t,.int .i64 C.2.2.2.1,.int .i64 C.2.2.2.2]∧FL (Bs.of n) C.2.2.1 t u)) (fun _ _ _ h k=>NV.stays (fun r w w' h k=>by obtain ⟨t,e,h⟩:=h;exact ⟨t,e,Is.stays _ _ h k⟩) h k) (f:=?_) (args:=?_) (by rfl) (by rfl) ?_ ?_ ?_
   rotate_left 2
   ·intro w_ hS_ hG_;go_simp<;>first | with_reducible rfl | (constructor<;>with_reducible rfl)
   ·intro w_ hS_ hG_;(go_at_call 125;refine (La.lplace_any (Bs.of n) ln _ x.free _ (c 0) (c 6) (c 7) (c 8) _ w_ (HLn.out w_ hG_.1.1).1 (HLn.out w_ hG_.1.1).2.1 (HLn.out w_ hG_.1.1).2.2 HSL.out HM.out).mono ?_;rintro e w' ⟨v,fv,gv,rfl,hb,hl,hf,hg⟩;rw [HC.out] at hl hf hg ⊢;obtain ⟨b1,o1,p1,b2,o2,p2,b3,o3,p3,rfl,l1,l2,l3⟩:=ln_three hl;obtain ⟨b4,p4,rfl⟩:=La.hl_slice hf;exact ⟨_,rfl,hb,_,_,_,_,_,_,_,_,_,_,_,_,_,rfl,l1,l2,l3,hf,_,rfl,hg⟩)
   intro v2 u_ hv2
   simp only [Act.put,sA,sB,sC]
   obtain ⟨b1,o1,p1,b2,o2,p2,b3,o3,p3,b4,o4,p4,_,rfl,-,-,-,-,t5,rfl,hfl⟩:=hv2
   obtain ⟨b5,p5,rfl⟩:=hfl.len
   repeat (first | (refine Rh.Steps.sk ?_;simp only [Act.put,sA,sB,sC]) | (refine Rh.Steps.pu (v:=?_) ?_ ?_;rotate_left;(intro w_ hS_;skip;go_simp<;>with_reducible rfl);simp only [Act.put,sA,sB,sC]))
   refine Rh.Steps.forced (i:=25) (by kernel_rfl) ?_
   refine Rh.One.store (fun u=>XL n Bo { x with lanes:=x.lanes.set ix C.1 } (.slice af m1 cf) s i o g d b u∧HL n C.2.1 (.slice b4 o4 p4) u∧FL (Bs.of n) C.2.2.1 (.slice b5 C.2.2.1.length p5) u) (fun _ _ h k=>⟨h.1.stays k,La.hl_stays h.2.1 k,Is.stays _ _ h.2.2 k⟩) (by rfl) (by rfl) ?_ ?_
   ·intro w_ hS_ hG_
    obtain ⟨⟨⟨t0,_⟩,_⟩,t1⟩:=hG_
    obtain ⟨y1,y2,y3,y4,y5⟩:=t1.inv
    obtain ⟨t5,e5,y5⟩:=y5
    obtain rfl:=(List.cons.inj e5).1
    obtain ⟨z1,z2,z3⟩:=(HH.out.stays (nx HB.out t0)).lane HI.out y1 y2 y3
    refine ⟨w_.setCells g (ix*6) [.int .i64 C.1.1,.int .i64 C.1.2.1,.slice b1 o1 p1,.slice b2 o2 p2,.int .i64 C.1.2.2.1.2.2,.slice b3 o3 p3],?_,alt_lane hS_,z2,La.hl_keep y4 (z3 _ (by decide)),Is.keep _ _ y5 (z3 _ (by decide))⟩
    clear t0 t1 y1 y2 y3 y4 y5 z2 z3
    go_simp
   repeat (first | (refine Rh.Steps.sk ?_;simp only [Act.put,sA,sB,sC]) | (refine Rh.Steps.pu (v:=?_) ?_ ?_;rotate_left;(intro w_ hS_;skip;go_simp<;>with_reducible rfl);simp only [Act.put,sA,sB,sC]))
   refine Rh.Steps.forced (i:=27) (by kernel_rfl) ?_
   refine Rh.One.store (fun u=>XL n Bo { x with lanes:=x.lanes.set ix C.1,free:=C.2.1 } (.slice b4 o4 p4) s i o g d b u∧FL (Bs.of n) C.2.2.1 (.slice b5 C.2.2.1.length p5) u) (fun _ _ h k=>⟨h.1.stays k,Is.stays _ _ h.2 k⟩) (by rfl) (by rfl) ?_ ?_
   ·intro w_ hS_ hG_
    have k0:=hG_.1.box.cells.1
    have k1:=hG_.1.box.thawed 0
    have k2:=hG_.1.free (fr:=C.2.1) hG_.2.1
    have k3:FL (Bs.of n) C.2.2.1 (.slice b5 C.2.2.1.length p5) (w_.setCell ⟨b,0,none⟩ (.slice b4 o4 p4)):=Is.keep _ _ hG_.2.2 (keeps_setCell 0 _ hG_.1.box.bk (by decide) hG_.1.box.lo)
    refine ⟨w_.setCell ⟨b,0,none⟩ (.slice b4 o4 p4),?_,alt_free hS_,k2,k3⟩
    clear k2 hG_ k3
    go_simp
   repeat (first | (refine Rh.Steps.sk ?_;simp only [Act.put,sA,sB,sC]) | (refine Rh.Steps.pu (v:=?_) ?_ ?_;rotate_left;(intro w_ hS_;skip;go_simp<;>with_reducible rfl);simp only [Act.put,sA,sB,sC]))
   refine Rh.Steps.nil (by kernel_rfl) ?_
   intro w5 hS5 hG5
   have HA:=lH ((Alt.of_below HB.out).trans hS5)
   have HG:=lH hG5
   clear hG5 hS5 hF
   go_wp2_with fail
   refine (quantity_any (Bs.of n) C.2.2.1 _ w5 HG.out.2 (Nat.le_trans HFF.out.1 (by decide)) HFF.out.2).mono ?_
   rintro e w6 ⟨rfl,hb6⟩
   have hf:=(lH (And.intro (HA.out.trans (Alt.of_below hb6)) (HG.out.1.stays hb6)))
   clear hb6
   go_wp2
   go_ret3
   exact ⟨_,_,_,by rw [HQ.out]<;>rfl,hf.out.1,by rw [HQ.out];exact hf.out.2⟩
end Go.Proofs.YtjhocpcpkemcaaaGreat.Ex
