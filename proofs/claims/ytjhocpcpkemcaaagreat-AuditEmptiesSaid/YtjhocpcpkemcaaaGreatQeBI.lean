/- Package lane as it landed: which lanes may be, New, Owed, what an order needs. -/
import Derived.Test.YtjhocpcpkemcaaaGreatQeZZ
import Derived.Test.YtjhocpcpkemcaaaGreatQeAV
import Derived.Test.YtjhocpcpkemcaaaGreatQeAZ
import Derived.Test.YtjhocpcpkemcaaaGreatQeBH
import Derived.Test.YtjhocpcpkemcaaaGreatQeBG
import Derived.Test.YtjhocpcpkemcaaaGreatQeAT
import Derived.Test.YtjhocpcpkemcaaaGreatQeBE
import Derived.Test.YtjhocpcpkemcaaaGreatQeAF
import Derived.Test.YtjhocpcpkemcaaaGreatQeBB
import Derived.Deep.DeepCutAuto
set_option linter.unusedVariables false
set_option maxRecDepth 16000
set_option maxHeartbeats 32000000
namespace Go.Proofs.YtjhocpcpkemcaaaGreat.La
open Go.RowKit
open Rw
open Da
open Le
open Bk
open Ac (Hd Pu HL pmay pmay_iff tot total giveE giveL takeE takeL)
section
variable (ρ:Operand→Value) (dst:Option Tmp) (ty:TypeId) (pos:String) (after:Array Edge) (guard:Option (Nat × Bool)) (w:World)
theorem loadV (x:Operand) (h:(rowOf w (ρ x)).size=6):(execOp ρ { dst,op:=.load 137 x,type:=ty,pos,after,guard }).run Tryz.prog w=.ok (.value (.agg (rowOf w (ρ x)))) w :=
 exec_load (n:=5) ρ dst ty pos after guard w Tryz.underlying137 rfl (by kernel_rfl) x h
theorem storeV (p x:Operand) (h:plainAt 6 w (ρ p)=true) (hs:(ρ x).cells.size=6) (h1:oneAll (ρ x)=true) (ha:ρ x=.agg (ρ x).cells):(execOp ρ { dst,op:=.store 137 p x,type:=ty,pos,after,guard }).run Tryz.prog w=.ok .skip (putRow w (ρ p) (ρ x).cells) :=
 exec_store (n:=5) ρ dst ty pos after guard w (by kernel_rfl) p x h hs h1 ha
theorem build6 (a b c d e f:Value):(Instr.build 137 #[(0,.agg #[a,b,c,d,e,f])]).run Tryz.prog w=.ok (.agg #[a,b,c,d,e,f]) w:=by kernel_rfl
theorem buildV (x:Operand) (hs:(ρ x).cells.size=6) (ha:ρ x=.agg (ρ x).cells):(execOp ρ { dst,op:=.build 137 #[(0,x)],type:=ty,pos,after,guard }).run Tryz.prog w=.ok (.value (ρ x)) w:=by
 obtain ⟨a,b,c,d,e,f,h⟩:∃ a b c d e f,(ρ x).cells=#[a,b,c,d,e,f]:=by
  generalize (ρ x).cells=cs at hs
  obtain ⟨l⟩:=cs
  match l,hs with
  | [a,b,c,d,e,f],_=>exact ⟨a,b,c,d,e,f,rfl⟩
 have hx:ρ x=.agg #[a,b,c,d,e,f]:=ha.trans (by rw [h])
 have:=build6 w a b c d e f
 rw [← hx] at this
 simp [execOp,this]
end
attribute [go_sem ↓] loadV storeV buildV
def isA (n:Int):Bool:=decide (0≤n∧n<8)
theorem isA_any (n:Int) (w:World):Calls Tryz.prog 117 #[.int .i64 n] w fun e w'=>e=.returned (.bool (isA n))∧w=w':=by
 by_cases h0:0≤n
 ·by_cases h1:n<8
  ·have H:Hid (isA n=true):=lH (decide_eq_true ⟨h0,h1⟩)
   go_enter Tryz.func117,Tryz.ntmps117
   go_wp2
   go_ret
   exact ⟨by rw [H.out];simp,rfl⟩
  ·have H:Hid (isA n=false):=lH (decide_eq_false (fun h=>h1 h.2))
   have hd:decide (n<8)=false:=decide_eq_false h1
   clear h1
   go_enter Tryz.func117,Tryz.ntmps117
   go_wp2
   go_ret
   exact ⟨by rw [H.out];simp,rfl⟩
 ·have H:Hid (isA n=false):=lH (decide_eq_false (fun h=>h0 h.1))
  have hd:decide (0≤n)=false:=decide_eq_false h0
  clear h0
  go_enter Tryz.func117,Tryz.ntmps117
  go_wp2
  go_ret
  exact ⟨by rw [H.out];simp,rfl⟩
theorem isA_is {n:Int} {r:Bool} (h:Hid (isA n=r)) (w:World):Calls Tryz.prog 117 #[.int .i64 n] w fun e w'=>e=.returned (.bool r)∧w=w':=by
 rw [← h.out];exact isA_any n w
theorem pairOk_isA (b q:Int):pairOk b q=(isA b&&isA q&&(b != q)):=by
 have e:pairOk b q=true ↔ (isA b&&isA q&&(b != q))=true:=by
  rw [pairOk_iff]
  simp only [isA,Bool.and_eq_true,decide_eq_true_eq,bne_iff_ne]
  constructor
  ·rintro ⟨h1,h2,h3,h4,h5⟩;exact ⟨⟨⟨h1,h2⟩,h3,h4⟩,h5⟩
  ·rintro ⟨⟨⟨h1,h2⟩,h3,h4⟩,h5⟩;exact ⟨h1,h2,h3,h4,h5⟩
 cases h:pairOk b q
 ·cases k:(isA b&&isA q&&(b != q))
  ·rfl
  ·rw [← h,← k];exact (e.2 k).trans k.symm
 ·exact (e.1 h).symm
theorem ln_box {B:Bs} {lb lq nn:Int} {bu se:List Lv} {od:List Hd} {v:Value} {w:World} (h:LN B (lb,lq,(bu,se,nn),od) v w) (hB:B.le w.heap.size):∃ a1 n1 c1 a2 n2 c2 a3 n3 c3,v=.agg (cN lb lq (.slice a1 n1 c1) (.slice a2 n2 c2) nn (.slice a3 n3 c3))∧bu.length=n1∧se.length=n2∧od.length=n3 ∧
  LB B (lb,lq,(bu,se,nn),od) (.slice a1 n1 c1) (.slice a2 n2 c2) (.slice a3 n3 c3) w.heap.size (w.alloc (.cells (cN lb lq (.slice a1 n1 c1) (.slice a2 n2 c2) nn (.slice a3 n3 c3)) 59)):=by
 obtain ⟨a1,n1,c1,a2,n2,c2,a3,n3,c3,rfl,e1,e2,e3,hl1,hl2,hl3⟩:=h.open'
 simp only at e1 e2 e3 hl1 hl2 hl3
 exact ⟨_,_,_,_,_,_,_,_,_,rfl,e1,e2,e3,LB.made (l:=(lb,lq,(bu,se,nn),od)) hl1 hl2 hl3 hB.1⟩
theorem owes_any (B:Bs) (l:Ln) (v:Value) (w:World) (h:LN B l v w) (hB:B.le w.heap.size) (h5:l.2.2.2.length≤1000000) :
  Calls Tryz.prog 119 #[v] w fun e w'=>e=.returned (.bool (only l.1 l.2.1 l.2.2.2))∧Below w.heap.size w w':=by
 obtain ⟨lb,lq,⟨bu,se,nn⟩,od⟩:=l
 obtain ⟨a1,n1,c1,a2,n2,c2,a3,n3,c3,rfl,e1,e2,e3,hx0⟩:=ln_box h hB
 simp only at h5
 obtain ⟨V,hV⟩:∃ V,V=w.alloc (.cells (cN lb lq (.slice a1 n1 c1) (.slice a2 n2 c2) nn (.slice a3 n3 c3)) 59):=⟨_,rfl⟩
 have hbV:Below w.heap.size w V:=hV ▸ below1 w _
 rw [← hV] at hx0
 have HX:=lH hx0
 have hn3:n3≤1000000:=by omega
 have HE3:=lH e3
 obtain ⟨r0,r1,r2,r3,r4,r5⟩:=hx0.cells
 simp only at r0 r1 r2 r3 r4 r5
 have z3:=hx0.lt
 have HV:=lH hV
 rw [hV] at r0 r1 r2 r3 r4 r5 z3
 clear h hx0 hB h5 e1 e2 e3 hV
 go_enter Tryz.func119,Tryz.ntmps119
 go_wp2
 rw [← HV.out]
 go_loopw [4,8] (fun _ i wr=>∃ k:Nat,k≤n3∧i=.int .i64 k∧Below V.heap.size V wr∧only lb lq (od.take k)=true) (fun _ i _=>n3 - (intOf i).toNat)
 case atStart=>exact ⟨0,Nat.zero_le _,rfl,Below.refl _ _,by simp [only]⟩
 case round =>
  obtain ⟨k,hk,rfl,hb,ho⟩:=hrel
  have HO:=lH ho
  have hbw:=nx hbV hb
  have hxr:=HX.out.stays hb
  clear ho r0 r1 r2 r3 r4 r5 z3
  obtain ⟨r0,r1,r2,r3,r4,r5⟩:=hxr.cells
  simp only at r0 r1 r2 r3 r4 r5
  have zr:w.heap.size<wr.heap.size:=hxr.lt
  by_cases hlt:k<n3
  ·have hlt2:(k:Int)<n3:=by omega
   have hko:k<od.length:=by rw [HE3.out];exact hlt
   have hl:=hxr.l3
   simp only at hl
   rw [← HE3.out] at hl
   rcases hl.cases with ⟨e,_⟩ | ⟨_,g,off,cc,e,hat⟩
   ·rw [e] at hko;cases hko
   simp only [Value.slice.injEq] at e
   obtain ⟨rfl,_,rfl⟩:=e
   obtain ⟨s0,s1,s2⟩:=Ac.at3 hat k hko
   have hbb:=hat.1
   have hst:=only_take (b:=lb) (q:=lq) hko
   rw [HO.out,Bool.true_and] at hst
   obtain ⟨⟨x,y,z⟩,hx⟩:∃ x,od[k]'hko=x:=⟨_,rfl⟩
   rw [hx] at s0 s1 s2 hst
   simp only at s0 s1 s2
   have HSt:=lH (show only lb lq (od.take (k+1))=(y==lb||y==lq) from hst)
   have hHx:=lH hx
   clear hst hx hat hl hxr
   by_cases d1:y=lb
   ·have f1:(y != lb)=false:=by simpa using d1
    have HS1:Hid (only lb lq (od.take (k+1))=true):=lH (by rw [HSt.out,Bool.or_eq_true];exact .inl (by simpa using d1))
    clear d1
    go_wp2
    go_roundw
    case rel=>exact ⟨k+1,by omega,by go_num,nx hb (below1 _ _),HS1.out⟩
    case measure=>simp [intOf];omega
   ·have f1:(y != lb)=true:=by simpa using d1
    by_cases d2:y=lq
    ·have f2:(y != lq)=false:=by simpa using d2
     have HS1:Hid (only lb lq (od.take (k+1))=true):=lH (by rw [HSt.out,Bool.or_eq_true];exact .inr (by simpa using d2))
     clear d1 d2
     go_wp2
     go_roundw
     case rel=>exact ⟨k+1,by omega,by go_num,nx hb (below1 _ _),HS1.out⟩
     case measure=>simp [intOf];omega
    ·have f2:(y != lq)=true:=by simpa using d2
     have HZ:Hid (only lb lq od=false):=lH (by
      refine only_no hko ?_
      rw [hHx.out]
      show (y==lb||y==lq)=false
      simp [d1,d2])
     clear d1 d2
     go_wp2
     go_ret
     exact ⟨ret_bool HZ.out.symm,nx hbw (below1 _ _)⟩
  ·obtain rfl:k=n3:=by omega
   have HZ:Hid (only lb lq od=true):=lH (by rw [← HO.out,← HE3.out,List.take_length])
   go_wp2
   go_ret
   exact ⟨ret_bool HZ.out.symm,hbw⟩
theorem owes_is {B:Bs} {l:Ln} {v:Value} {w:World} {r:Bool} (hr:Hid (only l.1 l.2.1 l.2.2.2=r)) (h:LN B l v w) (hB:B.le w.heap.size) (h5:l.2.2.2.length≤1000000) :
  Calls Tryz.prog 119 #[v] w fun e w'=>e=.returned (.bool r)∧Below w.heap.size w w':=by
 rw [← hr.out];exact owes_any B l v w h hB h5
theorem rightB_is {B:Bs} {b:Bk} {v:Value} {w:World} {r:Bool} (hr:Hid (rightB b=r)) (h:BL B b v w) (hB:B.le w.heap.size) (h1:b.1.length≤1000) (h2:(flat b.1).length≤1000) (h3:b.2.1.length≤1000) (h4:(flat b.2.1).length≤1000) :
  Calls Tryz.prog 118 #[v] w fun e w'=>e=.returned (.bool r)∧Below w.heap.size w w':=by
 rw [← hr.out];exact right_anyB B b v w h hB h1 h2 h3 h4
theorem aright_is {lo:Nat} {l:List Hd} {v:Value} {w:World} {r:Bool} (hr:Hid (Ac.right l=r)) (h:HL lo l v w) (hm:l.length≤1000000) :
  Calls Tryz.prog 59 #[v] w fun e w'=>e=.returned (.bool r)∧Below w.heap.size w w':=by
 rw [← hr.out];exact Ac.right_any l v w h hm
theorem lright_any (B:Bs) (l:Ln) (v:Value) (w:World) (h:LN B l v w) (hB:B.le w.heap.size) (hs:Sm l) :
  Calls Tryz.prog 78 #[v] w fun e w'=>e=.returned (.bool (rightN l))∧Below w.heap.size w w':=by
 obtain ⟨lb,lq,⟨bu,se,nn⟩,od⟩:=l
 obtain ⟨a1,n1,c1,a2,n2,c2,a3,n3,c3,rfl,e1,e2,e3,hx0⟩:=ln_box h hB
 have hm5:od.length≤1000000:=Nat.le_trans hs.m5 (by decide)
 have HSm:=lH (And.intro hs hm5)
 obtain ⟨V,hV⟩:∃ V,V=w.alloc (.cells (cN lb lq (.slice a1 n1 c1) (.slice a2 n2 c2) nn (.slice a3 n3 c3)) 59):=⟨_,rfl⟩
 have hbV:Below w.heap.size w V:=hV ▸ below1 w _
 rw [← hV] at hx0
 have HX:=lH hx0
 have HB:=lH (show ∀ u,Below w.heap.size w u→B.le u.heap.size from fun u hu=>hB.mono hu.size)
 obtain ⟨r0,r1,r2,r3,r4,r5⟩:=hx0.cells
 simp only at r0 r1 r2 r3 r4 r5
 have z3:=hx0.lt
 have rr:=hx0.row
 simp only at rr
 have HV:=lH hV
 rw [hV] at r0 r1 r2 r3 r4 r5 z3 rr
 obtain ⟨x1,hx1⟩:∃ r,isA lb=r:=⟨_,rfl⟩
 obtain ⟨x2,hx2⟩:∃ r,isA lq=r:=⟨_,rfl⟩
 obtain ⟨x3,hx3⟩:∃ r,(lb != lq)=r:=⟨_,rfl⟩
 obtain ⟨x4,hx4⟩:∃ r,rightB (bu,se,nn)=r:=⟨_,rfl⟩
 obtain ⟨x5,hx5⟩:∃ r,Ac.right od=r:=⟨_,rfl⟩
 obtain ⟨x6,hx6⟩:∃ r,only lb lq od=r:=⟨_,rfl⟩
 have HZ:Hid (rightN (lb,lq,(bu,se,nn),od)=(x1&&x2&&x3&&x4&&x5&&x6)):=lH (by unfold rightN;simp only;rw [pairOk_isA,hx1,hx2,hx3,hx4,hx5,hx6])
 have H1:=lH hx1
 have H2:=lH hx2
 have H4:=lH hx4
 have H5:=lH hx5
 have H6:=lH hx6
 clear h hx0 hB hs hm5 e1 e2 e3 hV hx1 hx2 hx4 hx5 hx6
 go_enter Tryz.func78,Tryz.ntmps78
 go_wp2_with fail
 refine (isA_is H1 _).mono ?_
 rintro e w1 ⟨rfl,rfl⟩
 cases x1
 ·go_wp2
  go_ret
  exact ⟨by rw [HZ.out];rfl,HV.out ▸ hbV⟩
 go_wp2_with fail
 refine (isA_is H2 _).mono ?_
 rintro e w1 ⟨rfl,rfl⟩
 cases x2
 ·go_wp2
  go_ret
  exact ⟨by rw [HZ.out];rfl,HV.out ▸ hbV⟩
 cases x3
 ·go_wp2
  go_ret
  exact ⟨by rw [HZ.out];rfl,HV.out ▸ hbV⟩
 go_wp2_with fail
 rw [← HV.out]
 refine (rightB_is H4 HX.out.bl (HB.out V hbV) HSm.out.1.m1 HSm.out.1.m2 HSm.out.1.m3 HSm.out.1.m4).mono ?_
 rintro e w2 ⟨rfl,hb2⟩
 have hbw2:=nx hbV hb2
 have HX2:=lH (HX.out.stays hb2)
 cases x4
 ·go_wp2
  go_ret
  exact ⟨by rw [HZ.out];rfl,hbw2⟩
 clear r0 r1 r2 r3 r4 r5 z3 rr
 obtain ⟨r0,r1,r2,r3,r4,r5⟩:=HX2.out.cells
 simp only at r0 r1 r2 r3 r4 r5
 have z2:w.heap.size<w2.heap.size:=HX2.out.lt
 go_wp2_with fail
 refine (aright_is H5 HX2.out.l3 HSm.out.2).mono ?_
 rintro e w3 ⟨rfl,hb3⟩
 have hbw3:=nx hbw2 hb3
 have HX3:=lH (HX2.out.stays hb3)
 cases x5
 ·go_wp2
  go_ret
  exact ⟨by rw [HZ.out];rfl,hbw3⟩
 clear r0 r1 r2 r3 r4 r5 z2
 have rr:=HX3.out.row
 simp only at rr
 have z3:w.heap.size<w3.heap.size:=HX3.out.lt
 go_wp2_with fail
 refine (owes_is (l:=(lb,lq,(bu,se,nn),od)) H6 HX3.out.ln (HB.out w3 hbw3) HSm.out.2).mono ?_
 rintro e w4 ⟨rfl,hb4⟩
 go_wp2
 go_ret
 exact ⟨by rw [HZ.out];rfl,nx hbw3 hb4⟩
theorem lright_is {B:Bs} {l:Ln} {v:Value} {w:World} {r:Bool} (hr:Hid (rightN l=r)) (h:LN B l v w) (hB:B.le w.heap.size) (hs:Sm l) :
  Calls Tryz.prog 78 #[v] w fun e w'=>e=.returned (.bool r)∧Below w.heap.size w w':=by
 rw [← hr.out];exact lright_any B l v w h hB hs
theorem areRight_any (B:Bs) (l:Ln) (v:Value) (fr:List Hd) (fv:Value) (w:World) (h:LN B l v w) (hf:HL B.lo fr fv w) (hB:B.le w.heap.size) (hs:Sm l) (hm:fr.length≤1000) :
  Calls Tryz.prog 150 #[v,fv] w fun e w'=>e=.returned (.bool (rightN l&&Ac.right fr))∧Below w.heap.size w w':=by
 obtain ⟨x1,hx1⟩:∃ r,rightN l=r:=⟨_,rfl⟩
 obtain ⟨x2,hx2⟩:∃ r,Ac.right fr=r:=⟨_,rfl⟩
 have H1:=lH hx1
 have H2:=lH hx2
 rw [hx1,hx2]
 have HSm:=lH (And.intro hs (Nat.le_trans hm (by decide:1000≤1000000)))
 obtain ⟨lb,lq,⟨bu,se,nn⟩,od⟩:=l
 obtain ⟨a1,n1,c1,a2,n2,c2,a3,n3,c3,rfl,e1,e2,e3,hx0⟩:=ln_box h hB
 obtain ⟨V,hV⟩:∃ V,V=w.alloc (.cells (cN lb lq (.slice a1 n1 c1) (.slice a2 n2 c2) nn (.slice a3 n3 c3)) 59):=⟨_,rfl⟩
 have hbV:Below w.heap.size w V:=hV ▸ below1 w _
 rw [← hV] at hx0
 have HX:=lH hx0
 have HF:=lH (hl_stays hf hbV)
 have HB:=lH (hB.mono hbV.size)
 have r0:=hx0.row
 simp only at r0
 have HV:=lH hV
 rw [hV] at r0
 clear h hf hx0 hB hs hm e1 e2 e3 hV hx1 hx2
 go_enter Tryz.func150,Tryz.ntmps150
 go_wp2_with fail
 rw [← HV.out]
 refine (lright_is H1 HX.out.ln HB.out HSm.out.1).mono ?_
 rintro e w1 ⟨rfl,hb1⟩
 have hbw1:=nx hbV hb1
 cases x1
 ·go_wp2
  go_ret
  exact ⟨rfl,hbw1⟩
 have HF1:=lH (hl_stays HF.out hb1)
 go_wp2_with fail
 refine (aright_is H2 HF1.out HSm.out.2).mono ?_
 rintro e w2 ⟨rfl,hb2⟩
 go_wp2
 go_ret
 exact ⟨rfl,nx hbw1 hb2⟩
theorem areRight_is {B:Bs} {l:Ln} {v:Value} {fr:List Hd} {fv:Value} {w:World} {r:Bool} (hr:Hid ((rightN l&&Ac.right fr)=r)) (h:LN B l v w) (hf:HL B.lo fr fv w) (hB:B.le w.heap.size) (hs:Sm l) (hm:fr.length≤1000) :
  Calls Tryz.prog 150 #[v,fv] w fun e w'=>e=.returned (.bool r)∧Below w.heap.size w w':=by
 rw [← hr.out];exact areRight_any B l v fr fv w h hf hB hs hm
theorem lowed_any (B:Bs) (l:Ln) (v:Value) (a:Int) (w:World) (h:LN B l v w) (hB:B.le w.heap.size) (hs:Sm l) :
  Calls Tryz.prog 68 #[v,.int .i64 a] w fun e w'=>e=.returned (.int .i64 (owedN l a))∧Below w.heap.size w w':=by
 obtain ⟨x1,hx1⟩:∃ r,rightN l=r:=⟨_,rfl⟩
 obtain ⟨N,hN⟩:∃ N,owedN l a=N:=⟨_,rfl⟩
 have H1:=lH hx1
 have HN:=lH hN
 rw [hN]
 have HSm:=lH (And.intro hs (Nat.le_trans hs.m5 (by decide:1000≤1000000)))
 obtain ⟨lb,lq,⟨bu,se,nn⟩,od⟩:=l
 obtain ⟨a1,n1,c1,a2,n2,c2,a3,n3,c3,rfl,e1,e2,e3,hx0⟩:=ln_box h hB
 obtain ⟨V,hV⟩:∃ V,V=w.alloc (.cells (cN lb lq (.slice a1 n1 c1) (.slice a2 n2 c2) nn (.slice a3 n3 c3)) 59):=⟨_,rfl⟩
 have hbV:Below w.heap.size w V:=hV ▸ below1 w _
 rw [← hV] at hx0
 have HX:=lH hx0
 have HB:=lH (hB.mono hbV.size)
 have r0:=hx0.row
 simp only at r0
 have HV:=lH hV
 rw [hV] at r0
 clear h hx0 hB hs e1 e2 e3 hV hx1 hN
 go_enter Tryz.func68,Tryz.ntmps68
 go_wp2_with fail
 rw [← HV.out]
 refine (lright_is H1 HX.out.ln HB.out HSm.out.1).mono ?_
 rintro e w1 ⟨rfl,hb1⟩
 have hbw1:=nx hbV hb1
 have HX1:=lH (HX.out.stays hb1)
 clear r0
 obtain ⟨r0,r1,r2,r3,r4,r5⟩:=HX1.out.cells
 simp only at r0 r1 r2 r3 r4 r5
 have z1:w.heap.size<w1.heap.size:=HX1.out.lt
 cases x1
 ·have HZ:Hid (N=0):=lH (by rw [← HN.out];unfold owedN;rw [H1.out,if_neg (by decide)])
  go_wp2
  go_ret
  exact ⟨ret_int HZ.out.symm,hbw1⟩
 ·have HZ:Hid (N=total od a):=lH (by rw [← HN.out];unfold owedN;rw [H1.out,if_pos rfl])
  go_wp2_with fail
  refine (Ac.total_any od _ a w1 HX1.out.l3 HSm.out.2).mono ?_
  rintro e w2 ⟨rfl,hb2⟩
  go_wp2
  go_ret
  exact ⟨ret_int HZ.out.symm,nx hbw1 hb2⟩
theorem need_any (s p n:Int) (w:World) (hp:0≤p∧p≤1048576) (hn:0≤n∧n≤1048576) :
  Calls Tryz.prog 112 #[.int .i64 s,.int .i64 p,.int .i64 n] w fun e w'=>e=.returned (.int .i64 (ndN s p n))∧w=w':=by
 have hm:=mul_bd hp.1 hp.2 hn.1 hn.2
 obtain ⟨m,hpm⟩:∃ m,p*n=m:=⟨_,rfl⟩
 rw [hpm] at hm
 by_cases h:s=1
 ·have hd:(s==1)=true:=by simpa using h
  have H2:Hid (ndN s p n=m):=lH ((if_pos h).trans hpm)
  clear h hp hn
  go_enter Tryz.func112,Tryz.ntmps112
  go_wp2
  go_ret
  exact ⟨ret_int H2.out.symm,rfl⟩
 ·have hd:(s==1)=false:=by simpa using h
  have H2:Hid (ndN s p n=n):=lH (if_neg h)
  clear h hp hn hpm hm
  go_enter Tryz.func112,Tryz.ntmps112
  go_wp2
  go_ret
  exact ⟨ret_int H2.out.symm,rfl⟩
def othS (s:Int):Int:=if s=1 then 2 else 1
theorem other_any (s:Int) (w:World):Calls Tryz.prog 190 #[.int .i64 s] w fun e w'=>e=.returned (.int .i64 (othS s))∧w=w':=by
 by_cases h:s=1
 ·have hd:(s==1)=true:=by simpa using h
  have H2:Hid (othS s=2):=lH (if_pos h)
  clear h
  go_enter Tryz.func190,Tryz.ntmps190
  go_wp2
  go_ret
  exact ⟨ret_int H2.out.symm,rfl⟩
 ·have hd:(s==1)=false:=by simpa using h
  have H2:Hid (othS s=1):=lH (if_neg h)
  clear h
  go_enter Tryz.func190,Tryz.ntmps190
  go_wp2
  go_ret
  exact ⟨ret_int H2.out.symm,rfl⟩
theorem ret_P1 {fn:Func} {p:Tmp} (h:fn.results=#[.cell p 50]) (tmps:Array Value) (w:World) {cs:Array Value} (hs:cs.size=2) (hr:rowOf w (tmps.getD p undef)=cs):(results fn tmps).run Tryz.prog w=.ok (.agg cs) w :=
 ret1 (n:=1) h Tryz.underlying50 rfl (by kernel_rfl) tmps w hs hr
theorem fieldP1 (a b:Int) (w:World):(Instr.field 50 (.agg #[.int .i64 a,.int .i64 b]) 1).run Tryz.prog w=.ok (.int .i64 b) w:=by kernel_rfl
attribute [go_sem] fieldP1
theorem lpurse_any (lb lq nn:Int) (a1 a2 a3:Option Addr) (n1 c1 n2 c2 n3 c3:Nat) (ow s:Int) (w:World) :
  Calls Tryz.prog 111 #[.agg (cN lb lq (.slice a1 n1 c1) (.slice a2 n2 c2) nn (.slice a3 n3 c3)),.int .i64 ow,.int .i64 s] w fun e w'=>e=.returned (.agg #[.int .i64 ow,.int .i64 (ndA lb lq s)])∧Below w.heap.size w w':=by
 by_cases h:s=1
 ·have hd:(s==1)=true:=by simpa using h
  have H1:Hid (ndA lb lq s=lq):=lH (if_pos h)
  clear h
  go_enter Tryz.func111,Tryz.ntmps111
  go_wp2
  refine bodyPost_ret (v:=.agg #[.int .i64 ow,.int .i64 lq]) (ret_P1 Tryz.results111 _ _ rfl ?c1) rfl ⟨by rw [H1.out],?c2⟩
  case c1=>simp [go_sem]
  case c2=>exact below2 _ _ _
 ·have hd:(s==1)=false:=by simpa using h
  have H1:Hid (ndA lb lq s=lb):=lH (if_neg h)
  clear h
  go_enter Tryz.func111,Tryz.ntmps111
  go_wp2
  refine bodyPost_ret (v:=.agg #[.int .i64 ow,.int .i64 lb]) (ret_P1 Tryz.results111 _ _ rfl ?c1) rfl ⟨by rw [H1.out],?c2⟩
  case c1=>simp [go_sem]
  case c2=>exact below2 _ _ _
end Go.Proofs.YtjhocpcpkemcaaaGreat.La
namespace Go.Proofs.YtjhocpcpkemcaaaGreat.La
open Go.RowKit
open Rw
open Da
open Le
open Bk
open Ro
open Ac (Hd Pu HL pmay pmay_iff tot total giveE giveL takeE takeL)
theorem eqlH (a:Option Addr) (n c:Nat) (w:World):(binOp .eql 24 (.slice a n c) (.slice none 0 0)).run Tryz.prog w=.ok (.bool a.isNone) w:=Lib.run_eql_slice_nil w _ _ a n c 0 0 Tryz.underlying24
theorem guardH (p q:Operand) (a:Option Addr) (n c:Nat) (w:World):(eqGuard .eql 24 p q (.slice a n c) (.slice none 0 0)).run Tryz.prog w=.ok () w:=rfl
theorem eqlLv (a:Option Addr) (n c:Nat) (w:World):(binOp .eql 55 (.slice a n c) (.slice none 0 0)).run Tryz.prog w=.ok (.bool a.isNone) w:=Lib.run_eql_slice_nil w _ _ a n c 0 0 Tryz.underlying55
theorem guardLv (p q:Operand) (a:Option Addr) (n c:Nat) (w:World):(eqGuard .eql 55 p q (.slice a n c) (.slice none 0 0)).run Tryz.prog w=.ok () w:=rfl
attribute [go_sem ↓] eqlH guardH eqlLv guardLv
def fH:Flat Hd:=⟨3,Ac.enc,fun _=>rfl,fun o u hu=>by simp [Ac.enc] at hu;rcases hu with rfl | rfl | rfl<;>rfl⟩
abbrev RowH (g cap:Nat) (l:List Hd) (w:World):Prop:=Row fH 52 g cap l w
theorem cloneH_any {lo:Nat} (l:List Hd) (x:Value) (w:World) (h:HL lo l x w) (hlo:lo≤w.heap.size) (hm:l.length≤1000000) :
  Calls Tryz.prog 82 #[x] w (Post (Own eH 52 (Bs.of lo) w.heap.size l) w):=by
 have hi:=hl_is h
 obtain ⟨a2,c2,rfl,hel⟩:=id hi
 cases a2 with
 | none =>
  rcases hel with ⟨rfl,hc⟩ | ⟨b,off,e,_⟩
  ·obtain rfl:=hc rfl
   clear h hi
   go_enter Tryz.func82,Tryz.ntmps82
   go_wp2
   go_ret
   exact ⟨_,rfl,Below.refl _ _,Own.nil _ _ _⟩
  ·cases e
 | some ad =>
  have hb1:=below1 w (.cells #[] 52)
  obtain ⟨v2,w2,hrun,hown2,_,hbl,_⟩:=Own.append elemH 24 typesH (B:=Bs.of lo) (Bo:=w.heap.size) (l:=[]) ⟨hlo,fun _ h=>h.elim⟩ hb1.size (Own.made _ w _ (Nat.le_refl _)) (Is.stays eH 52 hi hb1) (by simp;omega) (by decide)
  have hb2:=hbl _ _ (Nat.le_refl _) hb1
  have HO:=lH hown2
  obtain ⟨m,hmm⟩:∃ m,m=l.length:=⟨_,rfl⟩
  rw [← hmm] at hrun ⊢
  clear hown2 hbl h hel hmm hi
  go_enter Tryz.func82,Tryz.ntmps82
  go_wp2
  go_ret
  exact ⟨_,rfl,hb2,HO.out⟩
theorem choose_list {α β:Type} {P:Nat→α→β→Prop}:∀ {l:List α},(∀ i x,l[i]?=some x→∃ y,P i x y)→∃ hs:List β,hs.length=l.length∧∀ i x y,l[i]?=some x→hs[i]?=some y→P i x y:=by
 intro l
 induction l generalizing P with
 | nil=>intro _;exact ⟨[],rfl,by simp⟩
 | cons a l ih =>
  intro h
  obtain ⟨y,hy⟩:=h 0 a rfl
  obtain ⟨hs,h1,h2⟩:=ih (P:=fun i=>P (i+1)) fun i x hx=>h (i+1) x (by simpa using hx)
  refine ⟨y :: hs,by simp [h1],fun i x z hx hz=>?_⟩
  cases i with
  | zero =>
   obtain rfl:a=x:=by simpa using hx
   obtain rfl:y=z:=by simpa using hz
   exact hy
  | succ i=>exact h2 i x z (by simpa using hx) (by simpa using hz)
theorem ll_hs {B:Bs} {l:List Lv} {v:Value} {w:World} (h:LL B l v w):∃ hs,Is eF 106 B hs v w∧LvS B l hs w:=by
 obtain ⟨a,c,rfl,hc⟩:=h
 rcases hc with ⟨rfl,hc⟩ | ⟨b,off,rfl,hb,hb2,hat⟩
 ·exact ⟨[],⟨a,c,rfl,.inl ⟨rfl,hc⟩⟩,LvS.nil B w⟩
 ·have hP:∀ (i:Nat) (x:Lv),l[i]?=some x→∃ y:Hw,(y.1=x.1∧OL B x.2 (hv y) w)∧∀ j u,([Value.int .i64 y.1,hv y]:List Value)[j]?=some u→w.cell? ⟨b,off+i*2+j,none⟩=some u:=fun i x hx=>by
   obtain ⟨cs,h1,h2⟩:=hat i x hx
   obtain ⟨xv,rfl,ho⟩:=eL_cells h1
   obtain ⟨a',c',rfl⟩:=ho.len
   exact ⟨(x.1,a',x.2.length,c'),⟨rfl,ho⟩,h2⟩
  obtain ⟨hs,hl,hh⟩:=choose_list hP
  refine ⟨hs,⟨_,c,by rw [hl],.inr ⟨b,off,rfl,hb,hb2,fun i y hy=>⟨_,rfl,?_⟩⟩⟩,hl,fun i x y hx hy=>(hh i x y hx hy).1⟩
  have hi:i<l.length:=by rw [← hl];exact (List.getElem?_eq_some_iff.1 hy).1
  exact (hh i _ y (List.getElem?_eq_getElem hi) hy).2
theorem cloneLv_any (B:Bs) (l:List Lv) (x:Value) (w:World) (h:LL B l x w) (hB:B.le w.heap.size) (hm:l.length≤1000000) :
  Calls Tryz.prog 121 #[x] w (Post (fun v u=>∃ hs,Own eF 106 B w.heap.size hs v u∧LvS B l hs u) w):=by
 obtain ⟨hs,hi,hv⟩:=ll_hs h
 have hlen:=hv.len
 obtain ⟨a2,c2,rfl,hel⟩:=id hi
 cases a2 with
 | none =>
  rcases hel with ⟨rfl,hc⟩ | ⟨b,off,e,_⟩
  ·obtain rfl:=hc rfl
   have HV:=lH hv
   clear h hi hv
   go_enter Tryz.func121,Tryz.ntmps121
   go_wp2
   go_ret
   exact ⟨_,rfl,Below.refl _ _,[],Own.nil _ _ _,HV.out⟩
  ·cases e
 | some ad =>
  have hb1:=below1 w (.cells #[] 106)
  obtain ⟨v2,w2,hrun,hown2,_,hbl,_⟩:=Own.append elemF 55 typesF hB hb1.size (Own.made B w w.heap.size (Nat.le_refl _)) (Is.stays eF 106 hi hb1) (by simp;omega) (by decide)
  have hb2:=hbl _ _ (Nat.le_refl _) hb1
  have HO:=lH hown2
  have HV:=lH (hv.keep (Keeps.of_below hb2))
  obtain ⟨m,hmm⟩:∃ m,m=hs.length:=⟨_,rfl⟩
  rw [← hmm] at hrun ⊢
  clear hown2 hbl h hel hmm hi hv hlen
  go_enter Tryz.func121,Tryz.ntmps121
  go_wp2
  go_ret
  exact ⟨_,rfl,hb2,_,HO.out,HV.out⟩
theorem lvs_set {B:Bs} {L:List Lv} {ms:List Hw} {w:World} (h:LvS B L ms w) {k:Nat} {x:Lv} {y:Hw} (hx:L[k]?=some x) (hp:y.1=x.1) (hy:OL B x.2 (hv y) w):LvS B L (ms.set k y) w:=by
 refine ⟨by rw [List.length_set];exact h.len,fun i a b ha hb=>?_⟩
 by_cases e:k=i
 ·subst e
  have hk:k<ms.length:=by rw [h.len];exact (List.getElem?_eq_some_iff.1 hx).1
  rw [List.getElem?_set_self hk] at hb
  rw [hx] at ha
  obtain rfl:=Option.some.inj ha
  obtain rfl:=Option.some.inj hb
  exact ⟨hp,hy⟩
 ·rw [List.getElem?_set_ne e] at hb
  exact h.at' i a b ha hb
theorem cloneO_is {B:Bs} {os:List Od} {x:Value} {w:World} (h:OL B os x w) (hB:B.le w.heap.size) (hm:os.length≤1000000) :
  Calls Tryz.prog 122 #[x] w fun e w'=>∃ a c,e=.returned (.slice a os.length c)∧Below w.heap.size w w'∧OwnO B w.heap.size os (.slice a os.length c) w':=by
 refine (cloneO_any B os x w h hB hm).mono ?_
 rintro e w' ⟨v,rfl,hb,ho⟩
 obtain ⟨a,c,rfl⟩:=(ho.is (by decide) hB).len
 exact ⟨a,c,rfl,hb,ho⟩
theorem lcloned_any (B:Bs) (l:List Lv) (v:Value) (w:World) (h:LL B l v w) (hB:B.le w.heap.size) (hm:l.length≤1000000) (hf:(flat l).length≤1000000) :
  Calls Tryz.prog 155 #[v] w (Post (LL B l) w):=by
 have HH:=lH h
 have HC:=lH (cloneLv_any B l v w h hB hm)
 have HB:=lH (show ∀ u,Below w.heap.size w u→B.le u.heap.size from fun u hu=>hB.mono hu.size)
 have HF:=lH hf
 obtain ⟨a1,c1,rfl,h1⟩:=h
 have HA:=lH h1
 obtain ⟨n,hn⟩:∃ n,n=l.length:=⟨_,rfl⟩
 rw [← hn] at hm HC ⊢
 have HN:=lH hn
 clear h1 hn hf hB
 go_enter Tryz.func155,Tryz.ntmps155
 go_wp2_with fail
 refine HC.out.mono ?_
 rintro e w2 ⟨v2,rfl,hb2,hs,hown,hlv⟩
 have hB2:=HB.out w (Below.refl _ _)
 have hsl:hs.length=n:=by rw [hlv.len,HN.out]
 by_cases h0:n=0
 ·subst h0
  have HZ:Hid (LL B l v2 w2):=lH (hlv.ll (hown.is (by decide) hB2))
  clear hown hlv
  go_wp2
  go_loopw [4,5,10] (fun _ _ i wr=>i=.int .i64 0∧Below w2.heap.size w2 wr) (fun _ _ i _=>0)
  case atStart=>exact ⟨rfl,Below.refl _ _⟩
  case round =>
   obtain ⟨rfl,hb⟩:=hrel
   go_wp2
   go_ret
   exact ⟨_,rfl,nx hb2 hb,Is.stays eL 106 HZ.out hb⟩
 rcases Row.ofOwn (e:=fF) (show Own fF.enc 106 B w.heap.size hs v2 w2 from hown) with ⟨_,e⟩ | ⟨g,cap,rfl,hg,hcap,hrow⟩
 ·rw [e] at hsl;simp at hsl;omega
 rw [hsl]
 have HR:=lH hrow
 have HV:=lH hlv
 have HCap:=lH hcap
 clear hown hlv hrow hsl hcap
 go_wp2
 go_loopw [4,5,10] (fun _ _ i wr=>∃ (k:Nat) (xs:List Hw),k≤n∧i=.int .i64 k∧Below w.heap.size w wr∧RowF g cap xs wr∧LvS B l xs wr) (fun _ _ i _=>n - (intOf i).toNat)
 case atStart=>exact ⟨0,hs,Nat.zero_le _,rfl,hb2,HR.out,HV.out⟩
 case round =>
  obtain ⟨k,xs,hk,rfl,hb,hrow,hlv⟩:=hrel
  have HRw:=lH hrow
  have HVw:=lH hlv
  have hxl:xs.length=n:=by rw [hlv.len,HN.out]
  clear hrow hlv
  by_cases hlt:k<n
  ·have hlt2:(k:Int)<n:=by omega
   have hkl:k<l.length:=by rw [← HN.out];exact hlt
   rcases HA.out with ⟨e,_⟩ | ⟨b,off,rfl,hat⟩
   ·rw [e] at hkl;cases hkl
   have hat2:=Lies.keep eL 106 hat (Keeps.of_below hb)
   have hbb:=hat2.1
   obtain ⟨x,q0,q1,hx⟩:=atL hat2 k hkl
   have hle:=flat_take_le l (k+1)
   rw [flat_take_snoc hkl,List.length_append] at hle
   obtain ⟨⟨pr,os⟩,hlk⟩:∃ y,l[k]'hkl=y:=⟨_,rfl⟩
   rw [hlk] at q0 hx hle
   simp only at q0 hx hle
   have hosl:os.length≤1000000:=by have:=HF.out;omega
   obtain ⟨a2,c2,rfl⟩:=hx.len
   have hgz:=HRw.out.lt
   have hxk:xs[k]?=some (xs[k]'(by omega)):=List.getElem?_eq_getElem (by omega)
   obtain ⟨⟨p0,p1,p2,p3⟩,hxy⟩:∃ y,xs[k]'(by omega)=y:=⟨_,rfl⟩
   rw [hxy] at hxk
   have hlk2:l[k]?=some (pr,os):=by rw [← hlk];exact List.getElem?_eq_getElem hkl
   have hp0:p0=pr:=(HVw.out.at' k _ _ hlk2 hxk).1
   subst hp0
   obtain ⟨V,hV⟩:∃ V,V=wr.alloc (.cells #[.int .i64 p0,.slice a2 os.length c2] 106):=⟨_,rfl⟩
   have hbV:Below wr.heap.size wr V:=hV ▸ below1 wr _
   have hbw:=nx hb hbV
   have HX:=lH (Is.stays eO 74 hx hbV)
   have HXk:=lH hxk
   have HLk:=lH hlk2
   have HbV:=lH hbV
   have hV2:=lH hV
   clear hx hat hat2 hlk hle hxk hlk2 hxy hV
   go_wp2_with fail
   rw [← hV2.out]
   refine (cloneO_is HX.out (HB.out V hbw) hosl).mono ?_
   rintro e w3 ⟨a3,c3,rfl,hb3,ho3⟩
   have hb4:=nx HbV.out hb3
   have hbw3:=nx hb hb4
   have hrw3:=HRw.out.stays hb4
   have hlv3:=HVw.out.keep (Keeps.of_below hb4)
   obtain ⟨_,s1,_,f1⟩:=rowF_at hrw3 HXk.out
   have z3:=hrw3.lt
   have hset:=hrw3.setCell (i:=k) (j:=1) (x:=(p0,p1,p2,p3)) (y:=(p0,a3,os.length,c3)) (u:=.slice a3 os.length c3) HXk.out (by decide) rfl
   have hgr:=setCell_grown w3 g (k*2+1) (.slice a3 os.length c3)
   have hkp:Da.Keeps B [74] w3 (w3.setCell ⟨g,k*2+1,none⟩ (.slice a3 os.length c3)):=hrw3.keeps (by have:=(HB.out w (Below.refl _ _)).1;omega) (by decide) hgr
   have hlvS:=lvs_set (hlv3.keep hkp) (y:=(p0,a3,os.length,c3)) HLk.out rfl (Is.keep eO 74 (ho3.is (by decide) (HB.out V hbw)) hkp)
   have HS1:=lH hset
   have HS2:=lH hlvS
   have HS3:=lH (hbw3.trans (low_setCell (k*2+1) (.slice a3 os.length c3) hg))
   clear hrw3 hlv3 hset hgr hkp hlvS ho3 hbw3
   go_wp2
   go_roundw
   case rel=>exact ⟨k+1,_,by omega,by go_num,HS3.out,HS1.out,HS2.out⟩
   case measure=>simp [intOf];omega
  ·obtain rfl:k=n:=by omega
   have HZ:Hid (LL B l (.slice (some ⟨g,0,none⟩) k cap) wr):=lH (by
    have:=rowF_ll (Bo:=w.heap.size) (HB.out w (Below.refl _ _)) hg HCap.out HVw.out HRw.out
    rwa [hxl] at this)
   go_wp2
   go_ret
   exact ⟨_,rfl,hb,HZ.out⟩
end Go.Proofs.YtjhocpcpkemcaaaGreat.La
namespace Go.Proofs.YtjhocpcpkemcaaaGreat.La
open Go.RowKit
open Rw
open Da
open Le
open Bk
open Ac (Hd Pu HL pmay pmay_iff tot total giveE giveL takeE takeL)
def okF (f:Fl):Prop:=0≤f.2.2.1∧f.2.2.1≤1048576∧0≤f.2.2.2.1∧f.2.2.2.1≤1048576
theorem pay_bd {s:Int} {f:Fl} (h:okF f):0≤payF s f∧payF s f≤1099511627776∧0≤getF s f∧getF s f≤1099511627776:=by
 obtain ⟨h1,h2,h3,h4⟩:=h
 have:=mul_bd h1 h2 h3 h4
 unfold payF getF
 split<;>omega
theorem stl_drop {b q s:Int} {fs:List Fl} {k:Nat} (h:k<fs.length) (ow:List Hd) (p g:Int) :
  stl b q s (fs.drop k) ow p g=if giveE ow (fs[k].2.1,astF b q s) (payF s fs[k])=0 then stl b q s (fs.drop (k+1)) (giveL ow (fs[k].2.1,astF b q s) (payF s fs[k])) (p+payF s fs[k]) (g+getF s fs[k]) else (ow,0,0,giveE ow (fs[k].2.1,astF b q s) (payF s fs[k])):=by
 rw [List.drop_eq_getElem_cons h,stl]
theorem give_len {l:List Hd} {p:Pu} {n:Int} (h:giveE l p n=0):(giveL l p n).length≤1000:=by
 have:=Ac.right_512 (Ac.give_done h).1
 omega
theorem sum_bd {s:Int}:∀ {fs:List Fl},(∀ f∈fs,okF f)→0≤sumP s fs∧sumP s fs≤fs.length*1099511627776∧0≤sumG s fs∧sumG s fs≤fs.length*1099511627776
 | [],_=>by simp [sumP,sumG]
 | f :: r,h=>by
  have h1:=pay_bd (s:=s) (h f List.mem_cons_self)
  have h2:=sum_bd (s:=s) (fs:=r) fun x hx=>h x (List.mem_cons_of_mem _ hx)
  rw [sumP,sumG,List.length_cons]
  have e:((r.length+1:Nat):Int)*1099511627776=r.length*1099511627776+1099511627776:=by rw [Int.natCast_add,Int.add_mul];omega
  rw [e]
  omega
def PostPN (B:Bs) (c:PN) (w:World) (e:Ending) (w':World):Prop :=
 ∃ v fv gv,e=.returned (.tuple #[v,fv,gv,.int .i64 c.2.2.2.1,.int .i64 c.2.2.2.2])∧Below w.heap.size w w'∧LN B c.1 v w'∧HL B.lo c.2.1 fv w'∧FL B c.2.2.1 gv w'
structure St0 (B:Bs) (l:Ln) (x y o:Value) (s:Nat) (fr:List Hd) (fv:Value) (w wr:World):Prop where
 lb:LB B l x y o s wr
 g:wr.heap[s+1]?=some (.cells (nilN 0 0 0) 59 (0,0))
 fr:HL B.lo fr fv wr
 bel:Below s w wr
theorem St0.stays {B:Bs} {l:Ln} {x y o:Value} {s:Nat} {fr:List Hd} {fv:Value} {w wr u:World} (h:St0 B l x y o s fr fv w wr) (hb:Below wr.heap.size wr u):St0 B l x y o s fr fv w u :=
 ⟨h.lb.stays hb,(hb.block _ (Array.getElem?_eq_some_iff.1 h.g).1).trans h.g,hl_stays h.fr hb,h.bel.trans (hb.mono (Nat.le_of_lt h.lb.lt))⟩
theorem St0.lt {B:Bs} {l:Ln} {x y o:Value} {s:Nat} {fr:List Hd} {fv:Value} {w wr:World} (h:St0 B l x y o s fr fv w wr):s<wr.heap.size∧s+1<wr.heap.size:=⟨h.lb.lt,(Array.getElem?_eq_some_iff.1 h.g).1⟩
theorem St0.pl {B:Bs} {l:Ln} {x y o:Value} {s:Nat} {fr:List Hd} {fv:Value} {w wr:World} (h:St0 B l x y o s fr fv w wr):plain 6 wr (s+1)=true:=by simp [Rw.plain,h.g]
theorem St0.ret {B:Bs} {l:Ln} {x y o:Value} {s:Nat} {fr:List Hd} {fv:Value} {w wr:World} (h:St0 B l x y o s fr fv w wr) :
  Below s w (wr.setRow (s+1) (cN l.1 l.2.1 x y l.2.2.1.2.2 o))∧LN B l (.agg (cN l.1 l.2.1 x y l.2.2.1.2.2 o)) (wr.setRow (s+1) (cN l.1 l.2.1 x y l.2.2.1.2.2 o))∧HL B.lo fr fv (wr.setRow (s+1) (cN l.1 l.2.1 x y l.2.2.1.2.2 o)) :=
 ⟨below_setRow h.bel (Nat.le_succ _) _,(h.lb.other (by omega) (by have:=h.lb.lo;omega) h.g _).ln,hl_keep h.fr (keeps_setRow _ h.g (by decide) (by have:=h.lb.lo;show B.lo≤s+1;omega))⟩
def PlR (B:Bs) (b:Bk) (fs:List Fl) (lf id er:Int) (w:World) (e:Ending) (w':World):Prop :=
 ∃ a1 n1 c1 a2 n2 c2 n fa fn fc,e=.returned (.tuple #[.agg #[.slice a1 n1 c1,.slice a2 n2 c2,.int .i64 n],.slice fa fn fc,.int .i64 lf,.int .i64 id,.int .i64 er])∧b.2.2=n∧fs.length=fn∧Below w.heap.size w w'∧LL B b.1 (.slice a1 n1 c1) w'∧LL B b.2.1 (.slice a2 n2 c2) w'∧FL B fs (.slice fa fn fc) w'
structure VB (B:Bs) (l:Ln) (x y o:Value) (s:Nat) (w:World):Prop where
 bk:w.heap[s]?=some (.cells (cN l.1 l.2.1 x y l.2.2.1.2.2 o) 137 (0,0))
 lo:B.lo≤s
 l1:LL B l.2.2.1.1 x w
 l2:LL B l.2.2.1.2.1 y w
 l3:HL B.lo l.2.2.2 o w
theorem VB.lt {B:Bs} {l:Ln} {x y o:Value} {s:Nat} {w:World} (h:VB B l x y o s w):s<w.heap.size:=(Array.getElem?_eq_some_iff.1 h.bk).1
theorem VB.stays {B:Bs} {l:Ln} {x y o:Value} {s:Nat} {w w':World} (h:VB B l x y o s w) (hb:Below w.heap.size w w'):VB B l x y o s w' :=
 ⟨(hb.block s h.lt).trans h.bk,h.lo,Is.stays eL 106 h.l1 hb,Is.stays eL 106 h.l2 hb,hl_stays h.l3 hb⟩
theorem VB.row {B:Bs} {l:Ln} {x y o:Value} {s:Nat} {w:World} (h:VB B l x y o s w):row w s=cN l.1 l.2.1 x y l.2.2.1.2.2 o:=by unfold Rw.row;rw [h.bk]
theorem VB.ln {B:Bs} {l:Ln} {x y o:Value} {s:Nat} {w:World} (h:VB B l x y o s w):LN B l (.agg (cN l.1 l.2.1 x y l.2.2.1.2.2 o)) w:=⟨x,y,o,rfl,h.l1,h.l2,h.l3⟩
theorem VB.cells {B:Bs} {l:Ln} {x y o:Value} {s:Nat} {w:World} (h:VB B l x y o s w):w.cell? ⟨s,0,none⟩=some (.int .i64 l.1)∧w.cell? ⟨s,1,none⟩=some (.int .i64 l.2.1)∧w.cell? ⟨s,2,none⟩=some x∧w.cell? ⟨s,3,none⟩=some y∧w.cell? ⟨s,4,none⟩=some (.int .i64 l.2.2.1.2.2)∧w.cell? ⟨s,5,none⟩=some o:=by
 refine ⟨?_,?_,?_,?_,?_,?_⟩<;>simp [World.cell?,h.bk,cN]
theorem VB.free {B:Bs} {l:Ln} {x y o:Value} {s:Nat} {w:World} (h:VB B l x y o s w) (k:Nat):w.frozen? ⟨s,k,none⟩=false:=by simp [World.frozen?,h.bk]
theorem VB.made {B:Bs} {l:Ln} {x y o:Value} {w:World} (h1:LL B l.2.2.1.1 x w) (h2:LL B l.2.2.1.2.1 y w) (h3:HL B.lo l.2.2.2 o w) (hB:B.lo≤w.heap.size):VB B l x y o w.heap.size (w.alloc (.cells (cN l.1 l.2.1 x y l.2.2.1.2.2 o) 137)) :=
 ⟨heap_alloc_new w _,hB,Is.stays eL 106 h1 (below1 _ _),Is.stays eL 106 h2 (below1 _ _),hl_stays h3 (below1 _ _)⟩
theorem VB.set {B:Bs} {l m:Ln} {x y o x' y' o':Value} {s:Nat} {w:World} (k:Nat) (v:Value) (h:VB B l x y o s w) (hc:cN m.1 m.2.1 x' y' m.2.2.1.2.2 o'=(cN l.1 l.2.1 x y l.2.2.1.2.2 o).setIfInBounds k v) (h1:LL B m.2.2.1.1 x' w) (h2:LL B m.2.2.1.2.1 y' w) (h3:HL B.lo m.2.2.2 o' w):VB B m x' y' o' s (w.setCell ⟨s,k,none⟩ v) :=
 ⟨by rw [hc];exact setN k v h.bk,h.lo,Is.keep eL 106 h1 (keeps_setCell k v h.bk (by decide) h.lo),Is.keep eL 106 h2 (keeps_setCell k v h.bk (by decide) h.lo),hl_keep h3 (keeps_setCell k v h.bk (by decide) h.lo)⟩
theorem VB.put {B:Bs} {m:Ln} {x' y' o':Value} {s:Nat} {w:World} {c:Array Value} (h:w.heap[s]?=some (.cells c 137 (0,0))) (lo:B.lo≤s) (h1:LL B m.2.2.1.1 x' w) (h2:LL B m.2.2.1.2.1 y' w) (h3:HL B.lo m.2.2.2 o' w):VB B m x' y' o' s (w.setRow s (cN m.1 m.2.1 x' y' m.2.2.1.2.2 o')) :=
 ⟨setRow_heap w s _ _ _ _ h,lo,Is.keep eL 106 h1 (keeps_setRow _ h (by decide) lo),Is.keep eL 106 h2 (keeps_setRow _ h (by decide) lo),hl_keep h3 (keeps_setRow _ h (by decide) lo)⟩
theorem VB.book {B:Bs} {lb lq:Int} {bk bk':Bk} {od:List Hd} {x y o x' y':Value} {n':Int} {m:Nat} {w:World} (h:VB B (lb,lq,bk,od) x y o m w) (h1:LL B bk'.1 x' w) (h2:LL B bk'.2.1 y' w) (hn:bk'.2.2=n') :
  VB B (lb,lq,bk',od) x' y' o m (((w.setCell ⟨m,2,none⟩ x').setCell ⟨m,3,none⟩ y').setCell ⟨m,4,none⟩ (.int .i64 n')) ∧
  (∀ ts,137 ∉ ts→∀ A:Bs,A.lo≤m→Da.Keeps A ts w (((w.setCell ⟨m,2,none⟩ x').setCell ⟨m,3,none⟩ y').setCell ⟨m,4,none⟩ (.int .i64 n'))) ∧
  (∀ k,k≠m→(((w.setCell ⟨m,2,none⟩ x').setCell ⟨m,3,none⟩ y').setCell ⟨m,4,none⟩ (.int .i64 n')).heap[k]?=w.heap[k]?) ∧
  ∀ n,n≤m→Below n w (((w.setCell ⟨m,2,none⟩ x').setCell ⟨m,3,none⟩ y').setCell ⟨m,4,none⟩ (.int .i64 n')):=by
 obtain ⟨bu,se,nn⟩:=bk
 obtain ⟨bu',se',nn'⟩:=bk'
 simp only at h1 h2 hn
 subst hn
 have k1:=h.set (m:=(lb,lq,(bu',se,nn),od)) 2 x' rfl h1 h.l2 h.l3
 have kp1:∀ ts,137 ∉ ts→∀ A:Bs,A.lo≤m→Da.Keeps A ts w (w.setCell ⟨m,2,none⟩ x'):=fun ts ht A hA=>keeps_setCell 2 x' h.bk ht hA
 have k2:=k1.set (m:=(lb,lq,(bu',se',nn),od)) 3 y' rfl k1.l1 (Is.keep eL 106 h2 (kp1 _ (by decide) B h.lo)) k1.l3
 have kp2:∀ ts,137 ∉ ts→∀ A:Bs,A.lo≤m→Da.Keeps A ts w ((w.setCell ⟨m,2,none⟩ x').setCell ⟨m,3,none⟩ y'):=fun ts ht A hA=>(kp1 ts ht A hA).trans (keeps_setCell 3 y' k1.bk ht hA)
 have k3:=k2.set (m:=(lb,lq,(bu',se',nn'),od)) 4 (.int .i64 nn') rfl k2.l1 k2.l2 k2.l3
 refine ⟨k3,fun ts ht A hA=>(kp2 ts ht A hA).trans (keeps_setCell 4 _ k2.bk ht hA),fun k hk=>?_,fun n hn=>?_⟩
 ·rw [Below.heap_setCell _ ⟨m,4,none⟩ _ k hk,Below.heap_setCell _ ⟨m,3,none⟩ _ k hk,Below.heap_setCell _ ⟨m,2,none⟩ _ k hk]
 ·exact ((low_setCell 2 x' hn).trans (low_setCell 3 y' hn)).trans (low_setCell 4 _ hn)
theorem ordsO_any (B:Bs) (l:List Lv) (v:Value) (w:World) (h:LL B l v w) (hB:B.le w.heap.size) (hm:l.length≤1000000) (hf:(flat l).length≤1000000) :
  Calls Tryz.prog 36 #[v] w (Post (OwnO B w.heap.size (flat l)) w):=by
 rcases h.cases with ⟨rfl,a,c,rfl⟩ | ⟨hne,b,off,c,rfl,hat⟩
 ·clear h
  have hd:decide ((0:Int)<0)=false:=by decide
  go_enter Tryz.func36,Tryz.ntmps36
  go_wp2
  go_loopw [3,9] (fun t i wr=>i=.int .i64 0∧Below w.heap.size w wr∧OwnO B w.heap.size (flat []) t wr) (fun _ i _=>0)
  case atStart=>exact ⟨rfl,below1 _ _,Own.made _ _ _ (Nat.le_refl _)⟩
  case round =>
   obtain ⟨rfl,hb,ho⟩:=hrel
   go_wp2
   go_ret
   exact ⟨_,rfl,hb,ho⟩
 ·have hbb:b<w.heap.size:=hat.1
  have HA:=lH hat
  have HF:=lH hf
  obtain ⟨n,hn⟩:∃ n,n=l.length:=⟨_,rfl⟩
  rw [← hn] at hm ⊢
  have HN:=lH hn
  clear h hat hn hne hf
  go_enter Tryz.func36,Tryz.ntmps36
  go_wp2
  go_loopw [3,9] (fun t i wr=>∃ k:Nat,k≤n∧i=.int .i64 k∧Below w.heap.size w wr∧OwnO B w.heap.size (flat (l.take k)) t wr) (fun _ i _=>n - (intOf i).toNat)
  case atStart=>exact ⟨0,Nat.zero_le _,rfl,below1 _ _,Own.made _ _ _ (Nat.le_refl _)⟩
  case round =>
   obtain ⟨k,hk,rfl,hb,hown⟩:=hrel
   have HO:=lH hown
   clear hown
   by_cases hlt:k<n
   ·have hlt2:(k:Int)<n:=by omega
    have hkl:k<l.length:=by rw [← HN.out];exact hlt
    obtain ⟨x,q0,q1,hx⟩:=atL HA.out k hkl
    obtain ⟨c1,f1,r1,p1⟩:=bcell hb
    obtain ⟨⟨pr,os⟩,hlk⟩:∃ y,l[k]=y:=⟨_,rfl⟩
    have ht:=flat_take_snoc hkl
    have hle:=flat_take_le l (k+1)
    rw [hlk] at q0 hx ht
    simp only at q0 hx ht
    have HT:=lH ht
    have hs:(flat (l.take k)).length+os.length≤1000000:=by rw [ht,List.length_append] at hle;have:=HF.out;omega
    clear ht hle hlk
    obtain ⟨a2,c2,rfl⟩:=hx.len
    obtain ⟨V,hV⟩:∃ V,V=wr.alloc (.cells #[.int .i64 pr,.slice a2 os.length c2] 106):=⟨_,rfl⟩
    have hbV:Below wr.heap.size wr V:=hV ▸ below1 wr _
    have hsz:=hb.size
    have hzV:wr.heap.size<V.heap.size:=by rw [hV];simp
    have hbw:=nx hb hbV
    have HX:=lH (Is.stays eO 74 (Is.stays eO 74 hx hb) hbV)
    obtain ⟨v2,w2,hrun,hown2,_,hbl,_⟩:=Own.append elemO 71 typesO hB (by omega) (HO.out.stays hbV) HX.out (by omega)  (by omega)
    have HO3:Hid (OwnO B w.heap.size (flat (l.take (k+1))) v2 w2):=lH (by rw [HT.out];exact hown2)
    have hb2:=hbl _ _ (Nat.le_refl _) hbw
    rw [hV] at hrun
    clear hown2 hbl hV
    go_wp2
    go_roundw
    case rel=>exact ⟨k+1,by omega,by go_num,hb2,HO3.out⟩
    case measure=>simp [intOf];omega
   ·obtain rfl:k=n:=by omega
    have e1:l.take k=l:=by rw [HN.out,List.take_length]
    have ho:=HO.out
    rw [e1] at ho
    have HZ:=lH ho
    clear ho e1
    go_wp2
    go_ret
    exact ⟨_,rfl,hb,HZ.out⟩
theorem lords_any (B:Bs) (l:Ln) (v:Value) (w:World) (h:LN B l v w) (hB:B.le w.heap.size) (hs:Sm l) :
  Calls Tryz.prog 110 #[v] w (Post (OL B (allO l.2.2.1)) w):=by
 have HSm:=lH hs
 obtain ⟨lb,lq,⟨bu,se,nn⟩,od⟩:=l
 obtain ⟨a1,n1,c1,a2,n2,c2,a3,n3,c3,rfl,e1,e2,e3,hl1,hl2,hl3⟩:=h.open'
 simp only at e1 e2 e3 hl1 hl2 hl3
 obtain ⟨V,hV⟩:∃ V,V=w.alloc (.cells (cN lb lq (.slice a1 n1 c1) (.slice a2 n2 c2) nn (.slice a3 n3 c3)) 137):=⟨_,rfl⟩
 have hbV:Below w.heap.size w V:=hV ▸ below1 w _
 have hx0:VB B (lb,lq,(bu,se,nn),od) (.slice a1 n1 c1) (.slice a2 n2 c2) (.slice a3 n3 c3) w.heap.size V:=by rw [hV];exact VB.made (l:=(lb,lq,(bu,se,nn),od)) hl1 hl2 hl3 hB.1
 have HX:=lH hx0
 have HB:=lH (show ∀ u,Below w.heap.size w u→B.le u.heap.size from fun u hu=>hB.mono hu.size)
 have hF:∀ u,Below V.heap.size V u→u.cell? ⟨w.heap.size,2,none⟩=some (.slice a1 n1 c1)∧u.cell? ⟨w.heap.size,3,none⟩=some (.slice a2 n2 c2)∧w.heap.size<u.heap.size:=fun u hu=>by
  obtain ⟨_,_,r2,r3,_,_⟩:=(HX.out.stays hu).cells
  exact ⟨r2,r3,(HX.out.stays hu).lt⟩
 have HLs:=lH (show ∀ u,Below V.heap.size V u→LL B bu (.slice a1 n1 c1) u∧LL B se (.slice a2 n2 c2) u from fun u hu=>⟨(HX.out.stays hu).l1,(HX.out.stays hu).l2⟩)
 have HV:=lH hV
 clear h hl1 hl2 hl3 hx0 hB e1 e2 e3 hV hs
 simp only
 go_enter Tryz.func110,Tryz.ntmps110
 go_wp2
 rw [← HV.out]
 refine Rh.rb [0,1,2,3,5,6,7,8,4,9,10,11] ?_
 repeat (first | (refine Rh.Steps.sk ?_;simp only [Act.put,sA,sB,sC]) | (refine Rh.Steps.pu (v:=?_) ?_ ?_;rotate_left;(intro w_ hS_;have hk_:=hF w_ hS_;go_simp<;>with_reducible rfl);simp only [Act.put,sA,sB,sC]))
 refine Rh.Steps.forced (i:=4) (by kernel_rfl) ?_
 refine Rh.One.call (fun v u=>OwnO B V.heap.size (flat bu) v u) (fun v _ _ h k=>h.stays k) (f:=?_) (args:=?_) (by rfl) (by rfl) ?_ ?_ ?_
 rotate_left 2
 ·intro w_ hS_ hG_;go_simp<;>first | with_reducible rfl | (constructor<;>with_reducible rfl)
 ·intro w_ hS_ hG_;(go_at_call 36;refine (ordsO_any B bu _ w_ (HLs.out w_ hS_).1 (HB.out w_ (nx hbV hS_)) (Nat.le_trans HSm.out.m1 (by decide)) (Nat.le_trans HSm.out.m2 (by decide))).mono ?_;rintro e w' ⟨v,rfl,hb9,ho⟩;exact ⟨v,rfl,hb9,Own.lower ho hS_.size⟩)
 intro v1 u_ hv1
 simp only [Act.put,sA,sB,sC]
 refine Rh.Steps.forced (i:=9) (by kernel_rfl) ?_
 refine Rh.One.call (fun v u=>OwnO B V.heap.size (flat se) v u) (fun v _ _ h k=>h.stays k) (f:=?_) (args:=?_) (by rfl) (by rfl) ?_ ?_ ?_
 rotate_left 2
 ·intro w_ hS_ hG_;go_simp<;>first | with_reducible rfl | (constructor<;>with_reducible rfl)
 ·intro w_ hS_ hG_;(go_at_call 36;refine (ordsO_any B se _ w_ (HLs.out w_ hS_).2 (HB.out w_ (nx hbV hS_)) (Nat.le_trans HSm.out.m3 (by decide)) (Nat.le_trans HSm.out.m4 (by decide))).mono ?_;rintro e w' ⟨v,rfl,hb9,ho⟩;exact ⟨v,rfl,hb9,Own.lower ho hS_.size⟩)
 intro v2 u_ hv2
 simp only [Act.put,sA,sB,sC]
 refine Rh.Steps.forced (i:=10) (by kernel_rfl) ?_
 refine Rh.One.new (fun v u=>Below V.heap.size V u∧OL B (allO (bu,se,nn)) v u) (fun v _ _ h k=>⟨nx h.1 k,Is.stays eO 74 h.2 k⟩) (by rfl) (by rfl) ?_ ?_
 ·intro w_ hS_ hG_
  obtain ⟨v8,w8,hrun,hown8,_,hbl8,_⟩:=Own.append elemO 71 typesO (HB.out V hbV) hS_.size hG_.1.2 (hG_.2.is (by decide) (HB.out V hbV)) (by have:=HSm.out.m2;have:=HSm.out.m4;simp only at *;omega) (by omega)
  have hb8:=hbl8 _ _ (Nat.le_refl _) hS_
  refine ⟨v8,w8,?_,hb8,hb8,hown8.is (by decide) (HB.out V hbV)⟩
  go_simp
 intro v3 u3 hv3
 simp only [Act.put,sA,sB,sC]
 repeat (first | (refine Rh.Steps.sk ?_;simp only [Act.put,sA,sB,sC]) | (refine Rh.Steps.pu (v:=?_) ?_ ?_;rotate_left;(intro w_ hS_;have hk_:=hF w_ hS_;go_simp<;>with_reducible rfl);simp only [Act.put,sA,sB,sC]))
 refine Rh.Steps.nil (by kernel_rfl) ?_
 rintro w2 hb2 hg2
 have hbw2:=nx hbV hb2
 have HOl:=lH hg2.2
 clear hg2 hF hv3
 go_wp2
 go_ret
 exact ⟨_,rfl,hbw2,HOl.out⟩
theorem lords_is {B:Bs} {l:Ln} {v:Value} {w:World} {all:List Od} {m:Nat} (ha:allO l.2.2.1=all) (hm:all.length=m) (h:LN B l v w) (hB:B.le w.heap.size) (hs:Sm l) :
  Calls Tryz.prog 110 #[v] w fun e w'=>∃ a c,e=.returned (.slice a m c)∧Below w.heap.size w w'∧OL B all (.slice a m c) w':=by
 refine (lords_any B l v w h hB hs).mono ?_
 rintro e w' ⟨v,rfl,hb,ho⟩
 rw [ha] at ho
 obtain ⟨a,c,rfl⟩:=ho.len
 rw [hm] at ho ⊢
 exact ⟨a,c,rfl,hb,ho⟩
theorem lreserved_any (B:Bs) (l:Ln) (v:Value) (a:Int) (w:World) (h:LN B l v w) (hB:B.le w.heap.size) (hs:Sm l) :
  Calls Tryz.prog 67 #[v,.int .i64 a] w fun e w'=>e=.returned (.int .i64 (reserved l a))∧Below w.heap.size w w':=by
 have HSm:=lH hs
 obtain ⟨r,hr⟩:∃ r,rightN l=r:=⟨_,rfl⟩
 obtain ⟨N,hN⟩:∃ N,reserved l a=N:=⟨_,rfl⟩
 have HR:=lH hr
 have HN:=lH hN
 rw [hN]
 obtain ⟨lb,lq,⟨bu,se,nn⟩,od⟩:=l
 obtain ⟨a1,n1,c1,a2,n2,c2,a3,n3,c3,rfl,e1,e2,e3,hx0⟩:=ln_box h hB
 obtain ⟨V,hV⟩:∃ V,V=w.alloc (.cells (cN lb lq (.slice a1 n1 c1) (.slice a2 n2 c2) nn (.slice a3 n3 c3)) 59):=⟨_,rfl⟩
 have hbV:Below w.heap.size w V:=hV ▸ below1 w _
 rw [← hV] at hx0
 have HX:=lH hx0
 have HB:=lH (show ∀ u,Below w.heap.size w u→B.le u.heap.size from fun u hu=>hB.mono hu.size)
 have r0:=hx0.row
 simp only at r0
 rw [hV] at r0
 have HV:=lH hV
 clear h hx0 hB e1 e2 e3 hV hs hr hN
 go_enter Tryz.func67,Tryz.ntmps67
 go_wp2_with fail
 rw [← HV.out]
 refine (lright_is HR HX.out.ln (HB.out V hbV) HSm.out).mono ?_
 rintro e w1 ⟨rfl,hb1⟩
 have HX1:=lH (HX.out.stays hb1)
 clear r0
 have hbw1:=nx hbV hb1
 cases r
 ·have HZ:Hid (N=0):=lH (by rw [← HN.out];unfold reserved;rw [HR.out,if_neg (by decide)])
  go_wp2
  go_ret
  exact ⟨ret_int HZ.out.symm,hbw1⟩
 obtain ⟨all,hall⟩:∃ all,allO (bu,se,nn)=all:=⟨_,rfl⟩
 obtain ⟨m,hm⟩:∃ m,all.length=m:=⟨_,rfl⟩
 have HAll:=lH (And.intro hall hm)
 have HZ:Hid (N=rsv lb lq a all):=lH (by rw [← HN.out];unfold reserved;rw [HR.out,if_pos rfl];simp only;rw [hall])
 have hRt:=rightN_iff.1 HR.out
 have hok:=okO_of hRt.book
 simp only at hok
 rw [hall] at hok
 have hcnt:m≤40:=by
  have:=hRt.book.cnt
  unfold cntB at this
  rw [← hm,← hall]
  unfold allO
  rw [List.length_append]
  exact this
 have HOk:=lH hok
 have rr:=HX1.out.row
 simp only at rr
 have z1:=HX1.out.lt
 obtain ⟨M,hM⟩:∃ M,M=w1.alloc (.cells (cN lb lq (.slice a1 n1 c1) (.slice a2 n2 c2) nn (.slice a3 n3 c3)) 137):=⟨_,rfl⟩
 have hbM:Below w1.heap.size w1 M:=hM ▸ below1 w1 _
 have hbwM:=nx hbw1 hbM
 have HVB:=lH (show VB B (lb,lq,(bu,se,nn),od) (.slice a1 n1 c1) (.slice a2 n2 c2) (.slice a3 n3 c3) w1.heap.size M from by rw [hM];exact VB.made (l:=(lb,lq,(bu,se,nn),od)) HX1.out.l1 HX1.out.l2 HX1.out.l3 (HB.out w1 hbw1).1)
 have HM:=lH hM
 clear hall hm hRt hok hM
 go_upto_region 4 with fail
 rw [← HM.out]
 clear rr
 have rr:=HVB.out.row
 simp only at rr
 go_wp2_with fail
 refine (lords_is HAll.out.1 HAll.out.2 HVB.out.ln (HB.out M hbwM) HSm.out).mono ?_
 rintro e w2 ⟨a9,c9,rfl,hb2,hol⟩
 have hbw2:=nx hbwM hb2
 have HOl:=lH hol
 have HX2:=lH (HVB.out.stays hb2)
 clear rr z1 hol
 go_wp2
 go_loopw [6,8,17] (fun n _ i wr=>∃ k:Nat,k≤m∧i=.int .i64 k∧n=.int .i64 (rsv lb lq a (all.take k))∧Below w2.heap.size w2 wr) (fun _ _ i _=>m - (intOf i).toNat)
 case atStart=>exact ⟨0,Nat.zero_le _,rfl,rfl,Below.refl _ _⟩
 case round =>
  obtain ⟨k,hk,rfl,rfl,hb⟩:=hrel
  have hbw:=nx hbw2 hb
  obtain ⟨nk,hnk⟩:∃ nk,rsv lb lq a (all.take k)=nk:=⟨_,rfl⟩
  have hbd:=rsv_bd (b:=lb) (q:=lq) (a:=a) (l:=all.take k) fun o ho=>HOk.out o (List.mem_of_mem_take ho)
  have hlen:=List.length_take_le k all
  have hnkb:0≤nk∧nk≤43980465111040:=by omega
  rw [hnk]
  have HNk:=lH hnk
  clear hnk hbd hlen
  have HXr:=lH (HX2.out.stays hb)
  by_cases hlt:k<m
  ·have hlt2:(k:Int)<m:=by omega
   have hko:k<all.length:=by rw [HAll.out.2];exact hlt
   have hol:=Is.stays eO 74 HOl.out hb
   rw [← HAll.out.2] at hol
   rcases hol.cases with ⟨e,_⟩ | ⟨_,g,off,cc,e,hat⟩
   ·rw [e] at hko;cases hko
   simp only [Value.slice.injEq] at e
   obtain ⟨rfl,_,rfl⟩:=e
   obtain ⟨s0,s1,s2,s3,s4⟩:=at5 hat k hko
   have hbb:=hat.1
   have hst:=rsv_take (b:=lb) (q:=lq) (a:=a) hko
   rw [HNk.out] at hst
   have hoo:=HOk.out _ (List.getElem_mem hko)
   obtain ⟨⟨x1,x2,x3,x4,x5⟩,hx⟩:∃ x,all[k]'hko=x:=⟨_,rfl⟩
   rw [hx] at s0 s1 s2 s3 s4 hst hoo
   unfold okO at hoo
   simp only at s0 s1 s2 s3 s4 hst hoo
   have HSt:=lH hst
   have rr:=HXr.out.row
   simp only at rr
   have zr:w1.heap.size<wr.heap.size:=HXr.out.lt
   have hnd:=ndN_bd (s:=x3) hoo.1 hoo.2.1 hoo.2.2.1 hoo.2.2.2
   obtain ⟨mm,hmm⟩:∃ mm,ndN x3 x4 x5=mm:=⟨_,rfl⟩
   rw [hmm] at hnd
   obtain ⟨ma,hma⟩:∃ ma,ndA lb lq x3=ma:=⟨_,rfl⟩
   have HMM:=lH (show ndN x3 x4 x5=mm∧ndA lb lq x3=ma from ⟨hmm,hma⟩)
   obtain ⟨M,hM⟩:∃ M,M=wr.alloc (.cells #[.int .i64 x1,.int .i64 x2,.int .i64 x3,.int .i64 x4,.int .i64 x5] 74):=⟨_,rfl⟩
   have hbM:Below wr.heap.size wr M:=hM ▸ below1 wr _
   have HM:=lH hM
   have hor:M.heap[wr.heap.size]?=some (.cells #[.int .i64 x1,.int .i64 x2,.int .i64 x3,.int .i64 x4,.int .i64 x5] 74 (0,0)):=by rw [hM];exact heap_alloc_new wr _
   clear hst hx hat hol hmm hma hM
   go_wp2_with fail
   rw [← HM.out]
   refine (lpurse_any lb lq nn _ _ _ _ _ _ _ _ _ x2 x3 M).mono ?_
   rintro e w3 ⟨rfl,hb3⟩
   rw [HMM.out.2]
   rw [HMM.out.1,HMM.out.2] at HSt
   have hb9:=nx hb (nx hbM hb3)
   have hor3:=(hb3.block _ (Array.getElem?_eq_some_iff.1 hor).1).trans hor
   have z3:=(Array.getElem?_eq_some_iff.1 hor3).1
   have o2:w3.cell? ⟨wr.heap.size,2,none⟩=some (.int .i64 x3):=by simp [World.cell?,hor3]
   have o3:w3.cell? ⟨wr.heap.size,3,none⟩=some (.int .i64 x4):=by simp [World.cell?,hor3]
   have o4:w3.cell? ⟨wr.heap.size,4,none⟩=some (.int .i64 x5):=by simp [World.cell?,hor3]
   clear hor hor3
   by_cases he:ma=a
   ·have hd:(ma==a)=true:=by simpa using he
    have HS1:Hid (rsv lb lq a (all.take (k+1))=nk+mm):=lH (by rw [HSt.out,if_pos he])
    clear he
    go_wp2_with fail
    refine (need_any x3 x4 x5 w3 ⟨hoo.1,hoo.2.1⟩ ⟨hoo.2.2.1,hoo.2.2.2⟩).mono ?_
    rintro e w4 ⟨rfl,rfl⟩
    rw [HMM.out.1]
    go_wp2
    go_roundw
    case rel=>exact ⟨k+1,by omega,by go_num,by rw [HS1.out],hb9⟩
    case measure=>simp [intOf];omega
   ·have hd:(ma==a)=false:=by simpa using he
    have HS1:Hid (rsv lb lq a (all.take (k+1))=nk):=lH (by rw [HSt.out,if_neg he,Int.add_zero])
    clear he
    go_wp2
    go_roundw
    case rel=>exact ⟨k+1,by omega,by go_num,by rw [HS1.out],hb9⟩
    case measure=>simp [intOf];omega
  ·obtain rfl:k=m:=by omega
   have HS1:Hid (N=nk):=lH (by rw [HZ.out,← HNk.out,← HAll.out.2,List.take_length])
   clear hlt
   go_wp2
   go_ret
   exact ⟨ret_int HS1.out.symm,hbw⟩
def PostNw (b q:Int) (w:World) (e:Ending) (w':World):Prop:=∃ v,e=.returned (.tuple #[v,.int .i64 (newE b q)])∧Below w.heap.size w w'∧∀ B:Bs,B.le w.heap.size→LN B (newN b q) v w'
theorem right_new (b q:Int):rightN (b,q,([],[],1),[])=pairOk b q:=by
 cases h:pairOk b q
 ·unfold rightN;simp only;rw [h];rfl
 ·exact rightN_iff.2 ⟨h,Bk.right_new,Ac.Right.nil,rfl⟩
theorem ln_nil (B:Bs) (b q n:Int) (w:World):LN B (b,q,([],[],n),[]) (.agg (nilN b q n)) w:=⟨_,_,_,rfl,Is.nil _ _ _ _,Is.nil _ _ _ _,Sl.SL.nil _ _ _ _⟩
theorem sm_nil (b q n:Int):Sm (b,q,([],[],n),[]):=⟨by simp,by simp [flat],by simp,by simp [flat],by simp⟩
theorem lnew_any (b q:Int) (w:World):Calls Tryz.prog 39 #[.int .i64 b,.int .i64 q] w (PostNw b q w):=by
 obtain ⟨r,hr⟩:∃ r,pairOk b q=r:=⟨_,rfl⟩
 have HR:Hid (rightN (b,q,([],[],1),[])=r):=lH ((right_new b q).trans hr)
 have HP:=lH hr
 clear hr
 go_enter Tryz.func39,Tryz.ntmps39
 go_wp2_with fail
 refine (Bk.new_any _).mono ?_
 rintro e w1 ⟨rfl,hb1⟩
 have hz:=hb1.size
 simp only [World.size_alloc] at hz
 have hg1:w1.heap[w.heap.size]?=some (.cells (nilN 0 0 0) 59 (0,0)):=(hb1.block _ (by simp)).trans (heap_alloc_new w _)
 have hbw1:=nx (below1 w _) hb1
 obtain ⟨M,hM⟩:∃ M,M=w1.alloc (.cells (nilN b q 1) 59):=⟨_,rfl⟩
 have hbM:Below w.heap.size w M:=nx hbw1 (hM ▸ below1 w1 _)
 have hgM:M.heap[w.heap.size]?=some (.cells (nilN 0 0 0) 59 (0,0)):=by rw [hM];exact ((below1 w1 _).block _ (by omega)).trans hg1
 have hlM:M.heap[w1.heap.size]?=some (.cells (nilN b q 1) 59 (0,0)):=by rw [hM];exact heap_alloc_new w1 _
 have HM:=lH hM
 have HbM:=lH hbM
 have HgM:=lH hgM
 have HlM:=lH hlM
 have hsz:w.heap.size<w1.heap.size:=by omega
 clear hz hb1 hg1 hbw1 hM hbM hgM hlM
 go_wp2_with fail
 rw [← HM.out]
 refine (lright_is HR (ln_nil ⟨M.heap.size,fun _=>False⟩ b q 1 M) ⟨Nat.le_refl _,fun _ h=>h.elim⟩ (sm_nil b q 1)).mono ?_
 rintro e w2 ⟨rfl,hb2⟩
 have hbw2:=nx HbM.out hb2
 have hg2:=(hb2.block _ (Array.getElem?_eq_some_iff.1 HgM.out).1).trans HgM.out
 have hl2:=(hb2.block _ (Array.getElem?_eq_some_iff.1 HlM.out).1).trans HlM.out
 have p1:plain 6 w2 w.heap.size=true:=by simp [Rw.plain,hg2]
 have z2:=(Array.getElem?_eq_some_iff.1 hg2).1
 have zl:=(Array.getElem?_eq_some_iff.1 hl2).1
 have rl:row w2 w1.heap.size=nilN b q 1:=by unfold Rw.row;rw [hl2]
 have HB2:=lH hbw2
 clear hbw2 hg2 hl2 hb2
 cases r
 ·obtain ⟨h1,h2⟩:=newN_no HP.out
  have HE:=lH (And.intro h1 h2)
  clear h1 h2
  go_wp2
  refine bodyPost_ret (v:=.tuple #[.agg (nilN 0 0 0),.int .i64 1]) (ret_N2 Tryz.results39 _ _ rfl ?c1) rfl ⟨_,by rw [HE.out.2],below_setRow HB2.out (Nat.le_refl _) _,fun B hB=>by rw [HE.out.1];exact ln_nil _ _ _ _ _⟩
  case c1=>exact row_set _ p1
 ·obtain ⟨h1,h2⟩:=newN_ok HP.out
  have HE:=lH (And.intro h1 h2)
  clear h1 h2
  go_wp2
  refine bodyPost_ret (v:=.tuple #[.agg (nilN b q 1),.int .i64 0]) (ret_N2 Tryz.results39 _ _ rfl ?c1) rfl ⟨_,by rw [HE.out.2],below_setRow HB2.out (Nat.le_refl _) _,fun B hB=>by rw [HE.out.1];exact ln_nil _ _ _ _ _⟩
  case c1=>exact row_set _ p1
end Go.Proofs.YtjhocpcpkemcaaaGreat.La
namespace Go.Proofs.YtjhocpcpkemcaaaGreat.La
open Go.RowKit
open Rw
open Da
open Le
open Bk
open Ro
open Ac (Hd Pu HL pmay pmay_iff tot total giveE giveL takeE takeL)
def notOf (ow:Int) (h:Hd):Bool:=h.1 != ow
def ixH (ow:Int):List Hd→Nat→Int
 | [],_=>-1
 | y :: r,j=>if y.1=ow then (j:Int) else ixH ow r (j+1)
theorem ixH_drop {ow:Int} {hs:List Hd} {j:Nat} (h:j<hs.length):ixH ow (hs.drop j) j=if hs[j].1=ow then (j:Int) else ixH ow (hs.drop (j+1)) (j+1):=by
 rw [hdrop h];rfl
theorem ixH_spec (ow:Int):∀ (hs:List Hd) (j:Nat),(ixH ow hs j=-1∧hs.filter (notOf ow)=hs)∨∃ k,∃ h:k<hs.length,ixH ow hs j=((j+k:Nat):Int)∧hs[k].1=ow∧(hs.take k).filter (notOf ow)=hs.take k
 | [],j=>.inl ⟨rfl,rfl⟩
 | y :: r,j=>by
  by_cases e:y.1=ow
  ·exact .inr ⟨0,by simp,by simp [ixH,e],by simpa using e,by simp⟩
  ·have hf:notOf ow y=true:=by simp [notOf,e]
   rcases ixH_spec ow r (j+1) with ⟨h1,h2⟩ | ⟨k,hk,h1,h2,h3⟩
   ·exact .inl ⟨by simp only [ixH,e,if_false];exact h1,by rw [List.filter_cons,hf,h2];rfl⟩
   ·refine .inr ⟨k+1,by simp;omega,?_,by simpa using h2,?_⟩
    ·simp only [ixH,e,if_false,h1];congr 1;omega
    ·rw [List.take_succ_cons,List.filter_cons,hf,h3];rfl
theorem rowH_at {g cap:Nat} {hs:List Hd} {u:World} (h:RowH g cap hs u) {i:Nat} {y:Hd} (hy:hs[i]?=some y):u.cell? ⟨g,i*3,none⟩=some (.int .i64 y.1)∧u.cell? ⟨g,i*3+1,none⟩=some (.int .i64 y.2.1)∧u.cell? ⟨g,i*3+2,none⟩=some (.int .i64 y.2.2)∧u.frozen? ⟨g,i*3,none⟩=false∧u.frozen? ⟨g,i*3+1,none⟩=false∧u.frozen? ⟨g,i*3+2,none⟩=false :=
 ⟨h.cell hy (j:=0) rfl,h.cell hy (j:=1) rfl,h.cell hy (j:=2) rfl,h.frozen _,h.frozen _,h.frozen _⟩
theorem rowH_set {g cap:Nat} {xs:List Hd} {u:World} (h:RowH g cap xs u) {i:Nat} {x:Hd} (y:Hd) (hx:xs[i]?=some x):RowH g cap (xs.set i y) (((u.setCell ⟨g,i*3,none⟩ (.int .i64 y.1)).setCell ⟨g,i*3+1,none⟩ (.int .i64 y.2.1)).setCell ⟨g,i*3+2,none⟩ (.int .i64 y.2.2))∧u.grownBy (((u.setCell ⟨g,i*3,none⟩ (.int .i64 y.1)).setCell ⟨g,i*3+1,none⟩ (.int .i64 y.2.1)).setCell ⟨g,i*3+2,none⟩ (.int .i64 y.2.2)) (some g):=by
 have hi:i<xs.length:=(List.getElem?_eq_some_iff.1 hx).1
 have h1:=h.setCell (j:=0) (y:=(y.1,x.2)) (u:=.int .i64 y.1) hx (by decide) rfl
 have h2:=h1.setCell (j:=1) (y:=(y.1,y.2.1,x.2.2)) (u:=.int .i64 y.2.1) (List.getElem?_set_self hi) (by decide) rfl
 rw [List.set_set] at h2
 have h3:=h2.setCell (j:=2) (y:=y) (u:=.int .i64 y.2.2) (List.getElem?_set_self hi) (by decide) rfl
 rw [List.set_set] at h3
 exact ⟨h3,grown_trans (grown_trans (setCell_grown u g (i*3) (.int .i64 y.1)) (setCell_grown _ g (i*3+1) (.int .i64 y.2.1))) (setCell_grown _ g (i*3+2) (.int .i64 y.2.2))⟩
theorem isOf_any (a b c ow:Int) (p:Nat) (w:World) (hp:p<w.heap.size) (hc:w.cell? ⟨p,0,none⟩=some (.int .i64 ow)):Calls Tryz.prog 157 #[.agg #[.int .i64 a,.int .i64 b,.int .i64 c],.pointer (some ⟨p,0,none⟩)] w fun x w'=>x=.returned (.bool (a==ow))∧Below w.heap.size w w':=by
 have hne:p≠w.heap.size:=by omega
 go_enter Tryz.func157,Tryz.ntmps157
 go_wp2
 go_ret
 exact ⟨rfl,below1 _ _⟩
theorem isOf_is {a b c ow:Int} {p:Nat} {w:World} {r:Bool} (hr:Hid ((a==ow)=r)) (hp:p<w.heap.size) (hc:w.cell? ⟨p,0,none⟩=some (.int .i64 ow)):Calls Tryz.prog 157 #[.agg #[.int .i64 a,.int .i64 b,.int .i64 c],.pointer (some ⟨p,0,none⟩)] w fun x w'=>x=.returned (.bool r)∧Below w.heap.size w w':=by
 rw [← hr.out];exact isOf_any a b c ow p w hp hc
theorem indexH_any (g n cap:Nat) (hs:List Hd) (ow:Int) (p:Nat) (w:World) (hrow:RowH g cap hs w) (hl:n=hs.length) (hm:n≤1000000) (hp:p<w.heap.size) (hc:w.cell? ⟨p,0,none⟩=some (.int .i64 ow)) :
  Calls Tryz.prog 193 #[.slice (some ⟨g,0,none⟩) n cap,.func (.func 157) #[] #[.pointer (some ⟨p,0,none⟩)]] w fun e w'=>e=.returned (.int .i64 (ixH ow hs 0))∧Below w.heap.size w w':=by
 obtain ⟨r,hr⟩:∃ r,ixH ow (hs.drop 0) 0=r:=⟨_,rfl⟩
 have HG:Hid (ixH ow hs 0=r):=lH hr
 have HR:=lH hr
 have HW:=lH hrow
 have HL:=lH hl
 have HC:=lH (show ∀ u,Below w.heap.size w u→p<u.heap.size∧u.cell? ⟨p,0,none⟩=some (.int .i64 ow) from fun u hu=>⟨Nat.lt_of_lt_of_le hp hu.size,(hu.cell (p:=⟨p,0,none⟩) hp).trans hc⟩)
 clear hrow hr hl hp hc
 go_enter Tryz.func193,Tryz.ntmps193
 go_wp2
 go_loopw [5,8] (fun _ i wr=>∃ j:Nat,j≤n∧i=.int .i64 j∧Below w.heap.size w wr∧ixH ow (hs.drop j) j=r) (fun _ i _=>n - (intOf i).toNat)
 case atStart=>exact ⟨0,Nat.zero_le _,rfl,Below.refl _ _,HR.out⟩
 case round =>
  obtain ⟨j,hj,rfl,hb,hrj⟩:=hrel
  have HT:=lH hrj
  clear hrj
  by_cases hjm:j<n
  ·have hjm2:(j:Int)<n:=by omega
   have hjo:j<hs.length:=by rw [← HL.out];exact hjm
   have hrw:=HW.out.stays hb
   have hgz:=hrw.lt
   have hcons:=ixH_drop (ow:=ow) hjo
   obtain ⟨⟨ya,yb,yc⟩,hy⟩:∃ y,hs[j]'hjo=y:=⟨_,rfl⟩
   rw [hy] at hcons
   simp only at hcons
   obtain ⟨q0,q1,q2,_,_,_⟩:=rowH_at hrw (show hs[j]?=some (ya,yb,yc) by rw [← hy];exact List.getElem?_eq_getElem hjo)
   simp only at q0 q1 q2
   rw [HT.out] at hcons
   have HCr:=lH (HC.out wr hb)
   clear hrw hy
   by_cases h0:ya=ow
   ·have hd:Hid ((ya==ow)=true):=lH (by simpa using h0)
    have HZ:Hid (r=(j:Int)):=lH (by rw [hcons,if_pos h0])
    clear hcons h0
    go_wp2_with fail
    refine (isOf_is hd HCr.out.1 HCr.out.2).mono ?_
    rintro e w' ⟨rfl,hb1⟩
    go_wp2
    go_ret
    exact ⟨ret_int (by rw [HG.out,HZ.out]),nx hb hb1⟩
   ·have hd:Hid ((ya==ow)=false):=lH (by simpa using h0)
    have HZ:Hid (ixH ow (hs.drop (j+1)) (j+1)=r):=lH (by rw [hcons,if_neg h0])
    clear hcons h0
    go_wp2_with fail
    refine (isOf_is hd HCr.out.1 HCr.out.2).mono ?_
    rintro e w' ⟨rfl,hb1⟩
    go_wp2
    go_roundw
    case rel=>exact ⟨j+1,by omega,by go_num,nx hb hb1,HZ.out⟩
    case measure=>simp [intOf];omega
  ·obtain rfl:j=n:=by omega
   have HZ:Hid (r=-1):=lH (by rw [← HT.out,HL.out,List.drop_length];rfl)
   clear hjm
   go_wp2
   go_ret
   exact ⟨ret_int (by rw [HG.out,HZ.out]),hb⟩
theorem indexH_is {g n cap:Nat} {hs:List Hd} {ow:Int} {p:Nat} {w:World} {r:Int} (hr:Hid (ixH ow hs 0=r)) (hrow:RowH g cap hs w) (hl:n=hs.length) (hm:n≤1000000) (hp:p<w.heap.size) (hc:w.cell? ⟨p,0,none⟩=some (.int .i64 ow)) :
  Calls Tryz.prog 193 #[.slice (some ⟨g,0,none⟩) n cap,.func (.func 157) #[] #[.pointer (some ⟨p,0,none⟩)]] w fun e w'=>e=.returned (.int .i64 r)∧Below w.heap.size w w':=by
 rw [← hr.out];exact indexH_any g n cap hs ow p w hrow hl hm hp hc
def DfG {α:Type} (q:α→Bool) (hs xs:List α) (i j:Nat):Prop:=xs.length=hs.length∧xs.take i=(hs.take j).filter q∧xs.drop j=hs.drop j
theorem DfG.at {α:Type} {q:α→Bool} {hs xs:List α} {i j:Nat} (h:DfG q hs xs i j) (_hj:j<hs.length):xs[j]?=hs[j]?:=by
 have h1:(xs.drop j)[0]?=(hs.drop j)[0]?:=by rw [h.2.2]
 rw [List.getElem?_drop,List.getElem?_drop] at h1
 simpa using h1
theorem DfG.skip {α:Type} {q:α→Bool} {hs xs:List α} {i j:Nat} (h:DfG q hs xs i j) (hj:j<hs.length) (he:q hs[j]=false):DfG q hs xs i (j+1):=by
 refine ⟨h.1,?_,?_⟩
 ·rw [h.2.1,Da.take_snoc hj,List.filter_append,List.filter_cons,he];simp
 ·rw [← List.drop_drop,h.2.2,List.drop_drop]
theorem DfG.keep {α:Type} {q:α→Bool} {hs xs:List α} {i j:Nat} (h:DfG q hs xs i j) (hij:i<j) (hj:j<hs.length) (he:q hs[j]=true):DfG q hs (xs.set i hs[j]) (i+1) (j+1):=by
 have hix:i<xs.length:=by rw [h.1];omega
 refine ⟨by rw [List.length_set];exact h.1,?_,?_⟩
 ·rw [Da.take_snoc (by rw [List.length_set];exact hix),List.take_set_of_le (Nat.le_refl i),h.2.1,Da.take_snoc hj,List.filter_append,List.filter_cons,he,List.getElem_set_self];simp
 ·rw [List.drop_set_of_lt (by omega),← List.drop_drop,h.2.2,List.drop_drop]
def DhP (g cap:Nat) (ow:Int) (hs:List Hd) (w:World) (e:Ending) (w':World):Prop:=e=.returned (.slice (some ⟨g,0,none⟩) (hs.filter (notOf ow)).length cap)∧RowH g cap (hs.filter (notOf ow)) w'∧w.grownBy w' (some g)
theorem zeroH (w:World):(zeroValue 52).run Tryz.prog w=.ok (.agg #[.int .i64 0,.int .i64 0,.int .i64 0]) w:=by kernel_rfl
theorem deleteH_any (g n cap:Nat) (hs:List Hd) (ow:Int) (p:Nat) (w:World) (hrow:RowH g cap hs w) (hl:n=hs.length) (hm:n≤1000000) (hcap:Hid (cap≤maxLen)) (hp:p<w.heap.size) (hpg:p≠g) (hc:w.cell? ⟨p,0,none⟩=some (.int .i64 ow)) :
  Calls Tryz.prog 156 #[.slice (some ⟨g,0,none⟩) n cap,.func (.func 157) #[] #[.pointer (some ⟨p,0,none⟩)]] w (DhP g cap ow hs w):=by
 have hle:n≤cap:=by rw [hl];exact hrow.le
 obtain ⟨q,hq⟩:∃ q,ixH ow hs 0=q:=⟨_,rfl⟩
 have HQ:=lH hq
 have HC:=lH (show ∀ u,w.grownBy u (some g)→p<u.heap.size∧u.cell? ⟨p,0,none⟩=some (.int .i64 ow) from fun u hu=>⟨Nat.lt_of_lt_of_le hp hu.size,(grown_cell hu hp (fun e=>hpg (Option.some.inj e))).trans hc⟩)
 rcases ixH_spec ow hs 0 with ⟨h1,h2⟩ | ⟨k,hk,h1,h2,h3⟩
 ·rw [hq] at h1
  subst h1
  have HZ:=lH (show ∀ u,Below w.heap.size w u→DhP g cap ow hs w (.returned (.slice (some ⟨g,0,none⟩) n cap)) u from fun u hu=>⟨by rw [h2,← hl],by rw [h2];exact hrow.stays hu,grown_below _ hu⟩)
  have hcall:=lH (indexH_is HQ hrow hl hm hp hc)
  clear hq h2 hrow hl hc
  go_enter Tryz.func156,Tryz.ntmps156
  go_wp2_with fail
  refine hcall.out.mono ?_
  rintro e w' ⟨rfl,hb1⟩
  go_wp2
  go_ret
  exact HZ.out _ hb1
 ·rw [hq,Nat.zero_add] at h1
  subst h1
  have hst:DfG (notOf ow) hs hs k (k+1):=⟨rfl,by rw [Da.take_snoc hk,List.filter_append,h3,List.filter_cons];simp [notOf,h2],rfl⟩
  have HSt:=lH hst
  have HR:=lH hrow
  have HL:=lH hl
  have hcall:=lH (indexH_is HQ hrow hl hm hp hc)
  have hkn:k<n:=by omega
  clear hst hrow hl h2 h3 hq hc
  go_enter Tryz.func156,Tryz.ntmps156
  go_wp2_with fail
  refine hcall.out.mono ?_
  rintro e w' ⟨rfl,hb1⟩
  have hd:((k:Int)==-1)=false:=by simp
  have HR1:=lH (HR.out.stays hb1)
  have HGr:=lH (grown_below (some g) hb1)
  go_wp2
  go_loopw [5,6,7] (fun s5 s6 _ wr=>∃ (i j:Nat) (xs:List Hd),s5=.int .i64 i∧s6=.int .i64 j∧i<j∧j≤n∧RowH g cap xs wr∧DfG (notOf ow) hs xs i j∧w.grownBy wr (some g)) (fun _ s6 _ _=>n - (intOf s6).toNat)
  case atStart=>exact ⟨k,k+1,hs,rfl,by go_num,by omega,by omega,HR1.out,HSt.out,HGr.out⟩
  case round =>
   obtain ⟨i,j,xs,rfl,rfl,hij,hjn,hrw,hinv,hgr⟩:=hrel
   have HI:=lH hinv
   have HW:=lH hrw
   have HG:=lH hgr
   have hgz:=hrw.lt
   clear hinv hrw hgr
   by_cases hjm:j<n
   ·have hjm2:(j:Int)<n:=by omega
    have hin2:(i:Int)<n:=by omega
    have hjo:j<hs.length:=by rw [← HL.out];exact hjm
    have hat:=HI.out.at hjo
    obtain ⟨⟨ya,yb,yc⟩,hy⟩:∃ y,hs[j]'hjo=y:=⟨_,rfl⟩
    have hxj:xs[j]?=some (ya,yb,yc):=by rw [hat,← hy];exact List.getElem?_eq_getElem hjo
    obtain ⟨q0,q1,q2,_,_,_⟩:=rowH_at HW.out hxj
    simp only at q0 q1 q2
    have HY:=lH hy
    clear hat hy hxj
    have hbx:=below1 wr (.cells #[.int .i64 ya,.int .i64 yb,.int .i64 yc] 52)
    have HCr:=lH (HC.out _ (grown_stays _ _ _ _ HG.out hbx))
    by_cases h0:ya=ow
    ·have hd0:Hid ((ya==ow)=true):=lH (by simpa using h0)
     have HZ:=lH (HI.out.skip hjo (by rw [HY.out];simp [notOf,h0]))
     clear h0
     go_wp2_with fail
     refine (isOf_is hd0 HCr.out.1 HCr.out.2).mono ?_
     rintro e w2 ⟨rfl,hb2⟩
     have hb3:=nx hbx hb2
     go_wp2
     go_roundw
     case rel=>exact ⟨i,j+1,xs,rfl,by go_num,by omega,by omega,HW.out.stays hb3,HZ.out,grown_stays _ _ _ _ HG.out hb3⟩
     case measure=>simp [intOf];omega
    ·have hd0:Hid ((ya==ow)=false):=lH (by simpa using h0)
     have HZ:=lH (HI.out.keep hij hjo (by rw [HY.out];simp [notOf,h0]))
     rw [HY.out] at HZ
     clear h0
     go_wp2_with fail
     refine (isOf_is hd0 HCr.out.1 HCr.out.2).mono ?_
     rintro e w2 ⟨rfl,hb2⟩
     have hb3:=nx hbx hb2
     have hrw2:=HW.out.stays hb3
     have hix:i<xs.length:=by rw [HI.out.1];omega
     obtain ⟨c0,c1,c2,f0,f1,f2⟩:=rowH_at hrw2 (List.getElem?_eq_getElem hix)
     obtain ⟨hr4,hg4⟩:=rowH_set hrw2 (ya,yb,yc) (List.getElem?_eq_getElem hix)
     simp only at hr4 hg4
     have HR4:=lH hr4
     have hg5:=grown_trans (grown_stays _ _ _ _ HG.out hb3) hg4
     have HG5:=lH hg5
     have hbl:=(hb2.block wr.heap.size (by simp)).trans (heap_alloc_new wr (.cells #[.int .i64 ya,.int .i64 yb,.int .i64 yc] 52))
     have b0:w2.cell? ⟨wr.heap.size,0,none⟩=some (.int .i64 ya):=by simp [World.cell?,hbl]
     have b1:w2.cell? ⟨wr.heap.size,1,none⟩=some (.int .i64 yb):=by simp [World.cell?,hbl]
     have b2:w2.cell? ⟨wr.heap.size,2,none⟩=some (.int .i64 yc):=by simp [World.cell?,hbl]
     clear hr4 hg4 hg5 hrw2 hbl
     go_wp2
     go_roundw
     case rel=>exact ⟨i+1,j+1,_,by go_num,by go_num,by omega,by omega,HR4.out,HZ.out,HG5.out⟩
     case measure=>simp [intOf];omega
   ·obtain rfl:j=n:=by omega
    have hfil:xs.take i=hs.filter (notOf ow):=by have:=HI.out.2.1;rw [HL.out,List.take_length] at this;exact this
    have hil:(hs.filter (notOf ow)).length=i:=by rw [← hfil,List.length_take,HI.out.1,← HL.out];omega
    have hcm:=hcap.out
    unfold maxLen at hcm
    obtain ⟨w5,hrun,hr5,hg5⟩:=Row.clear elemH 0 zeroH (x0:=((0,0,0):Hd)) rfl (HW.out.take i) (o:=i) (m:=j - i) (c:=cap - i) (by rw [List.length_take];omega) (by omega) (by omega)
    simp only [show fH.k=3 from rfl] at hrun
    have HZ:Hid (DhP g cap ow hs w (.returned (.slice (some ⟨g,0,none⟩) i cap)) w5):=lH ⟨by rw [hil],by rw [← hfil];exact hr5,grown_trans HG.out hg5⟩
    have k1:¬ cap=i:=by omega
    have k2:(i:Int)≤j:=by omega
    have k3:(i:Int)≤cap:=by omega
    have k4:(j:Int)≤cap:=by omega
    clear hfil hil hr5 hg5
    go_wp2
    go_ret
    exact HZ.out
end Go.Proofs.YtjhocpcpkemcaaaGreat.La
