/- Package lane as it landed: which lanes may be, New, Owed, what an order needs. -/
import Derived.Test.YthecinmekoaphaaGreatQbZZ
import Derived.Test.YthecinmekoaphaaGreatQbAT
import Derived.Test.YthecinmekoaphaaGreatQbAW
import Derived.Test.YthecinmekoaphaaGreatQbBK
import Derived.Test.YthecinmekoaphaaGreatQbBJ
import Derived.Test.YthecinmekoaphaaGreatQbAO
import Derived.Test.YthecinmekoaphaaGreatQbBI
import Derived.Test.YthecinmekoaphaaGreatQbBM
set_option linter.unusedVariables false
set_option maxRecDepth 16000
set_option maxHeartbeats 32000000
namespace Go.Proofs.YthecinmekoaphaaGreat.La
open Go.RowKit
open Rw
open Da
open Le
open Bk
open Ac (Hd Pu HL pmay pmay_iff tot total giveE giveL takeE takeL)
section
variable (ρ : Operand→Value) (dst : Option Tmp) (ty : TypeId) (pos : String) (after : Array Edge) (guard : Option (Nat × Bool)) (w : World)
theorem loadV (x : Operand) (h : (rowOf w (ρ x)).size=6) : (execOp ρ { dst,op:=.load 74 x,type:=ty,pos,after,guard }).run Tryz.prog w=.ok (.value (.agg (rowOf w (ρ x)))) w :=
 exec_load (n:=5) ρ dst ty pos after guard w Tryz.underlying74 rfl (by kernel_rfl) x h
theorem storeV (p x : Operand) (h : plainAt 6 w (ρ p)=true) (hs : (ρ x).cells.size=6) (h1 : oneAll (ρ x)=true) (ha : ρ x=.agg (ρ x).cells) : (execOp ρ { dst,op:=.store 74 p x,type:=ty,pos,after,guard }).run Tryz.prog w=.ok .skip (putRow w (ρ p) (ρ x).cells) :=
 exec_store (n:=5) ρ dst ty pos after guard w (by kernel_rfl) p x h hs h1 ha
theorem build6 (a b c d e f : Value) : (Instr.build 74 #[(0,.agg #[a,b,c,d,e,f])]).run Tryz.prog w=.ok (.agg #[a,b,c,d,e,f]) w:=by kernel_rfl
theorem buildV (x : Operand) (hs : (ρ x).cells.size=6) (ha : ρ x=.agg (ρ x).cells) : (execOp ρ { dst,op:=.build 74 #[(0,x)],type:=ty,pos,after,guard }).run Tryz.prog w=.ok (.value (ρ x)) w:=by
 obtain ⟨a,b,c,d,e,f,h⟩ : ∃ a b c d e f,(ρ x).cells=#[a,b,c,d,e,f]:=by
  generalize (ρ x).cells=cs at hs
  obtain ⟨l⟩:=cs
  match l,hs with
  | [a,b,c,d,e,f],_=>exact ⟨a,b,c,d,e,f,rfl⟩
 have hx : ρ x=.agg #[a,b,c,d,e,f]:=ha.trans (by rw [h])
 have:=build6 w a b c d e f
 rw [← hx] at this
 simp [execOp,this]
end
attribute [go_sem ↓] loadV storeV buildV
def isA (n : Int) : Bool:=decide (0≤n∧n<8)
theorem isA_any (n : Int) (w : World) : Calls Tryz.prog 58 #[.int .i64 n] w fun e w'=>e=.returned (.bool (isA n))∧w=w':=by
 by_cases h0 : 0≤n
 ·by_cases h1 : n<8
  ·have H : Hid (isA n=true):=lH (decide_eq_true ⟨h0,h1⟩)
   go_enter Tryz.func58,Tryz.ntmps58
   go_wp2
   go_ret
   exact ⟨by rw [H.out];simp,rfl⟩
  ·have H : Hid (isA n=false):=lH (decide_eq_false (fun h=>h1 h.2))
   have hd : decide (n<8)=false:=decide_eq_false h1
   clear h1
   go_enter Tryz.func58,Tryz.ntmps58
   go_wp2
   go_ret
   exact ⟨by rw [H.out];simp,rfl⟩
 ·have H : Hid (isA n=false):=lH (decide_eq_false (fun h=>h0 h.1))
  have hd : decide (0≤n)=false:=decide_eq_false h0
  clear h0
  go_enter Tryz.func58,Tryz.ntmps58
  go_wp2
  go_ret
  exact ⟨by rw [H.out];simp,rfl⟩
theorem isA_is {n : Int} {r : Bool} (h : Hid (isA n=r)) (w : World) : Calls Tryz.prog 58 #[.int .i64 n] w fun e w'=>e=.returned (.bool r)∧w=w':=by
 rw [← h.out];exact isA_any n w
theorem pairOk_isA (b q : Int) : pairOk b q=(isA b&&isA q&&(b != q)):=by
 have e : pairOk b q=true ↔ (isA b&&isA q&&(b != q))=true:=by
  rw [pairOk_iff]
  simp only [isA,Bool.and_eq_true,decide_eq_true_eq,bne_iff_ne]
  constructor
  ·rintro ⟨h1,h2,h3,h4,h5⟩;exact ⟨⟨⟨h1,h2⟩,h3,h4⟩,h5⟩
  ·rintro ⟨⟨⟨h1,h2⟩,h3,h4⟩,h5⟩;exact ⟨h1,h2,h3,h4,h5⟩
 cases h : pairOk b q
 ·cases k : (isA b&&isA q&&(b != q))
  ·rfl
  ·rw [← h,← k];exact (e.2 k).trans k.symm
 ·exact (e.1 h).symm
theorem ln_box {B : Bs} {lb lq nn : Int} {bu se : List Lv} {od : List Hd} {v : Value} {w : World} (h : LN B (lb,lq,(bu,se,nn),od) v w) (hB : B.le w.heap.size) : ∃ a1 n1 c1 a2 n2 c2 a3 n3 c3,v=.agg (cN lb lq (.slice a1 n1 c1) (.slice a2 n2 c2) nn (.slice a3 n3 c3))∧bu.length=n1∧se.length=n2∧od.length=n3 ∧
  LB B (lb,lq,(bu,se,nn),od) (.slice a1 n1 c1) (.slice a2 n2 c2) (.slice a3 n3 c3) w.heap.size (w.alloc (.cells (cN lb lq (.slice a1 n1 c1) (.slice a2 n2 c2) nn (.slice a3 n3 c3)) 28)):=by
 obtain ⟨a1,n1,c1,a2,n2,c2,a3,n3,c3,rfl,e1,e2,e3,hl1,hl2,hl3⟩:=h.open'
 simp only at e1 e2 e3 hl1 hl2 hl3
 exact ⟨_,_,_,_,_,_,_,_,_,rfl,e1,e2,e3,LB.made (l:=(lb,lq,(bu,se,nn),od)) hl1 hl2 hl3 hB.1⟩
theorem owes_any (B : Bs) (l : Ln) (v : Value) (w : World) (h : LN B l v w) (hB : B.le w.heap.size) (h5 : l.2.2.2.length≤1000000) :
  Calls Tryz.prog 60 #[v] w fun e w'=>e=.returned (.bool (only l.1 l.2.1 l.2.2.2))∧Below w.heap.size w w':=by
 obtain ⟨lb,lq,⟨bu,se,nn⟩,od⟩:=l
 obtain ⟨a1,n1,c1,a2,n2,c2,a3,n3,c3,rfl,e1,e2,e3,hx0⟩:=ln_box h hB
 simp only at h5
 obtain ⟨V,hV⟩ : ∃ V,V=w.alloc (.cells (cN lb lq (.slice a1 n1 c1) (.slice a2 n2 c2) nn (.slice a3 n3 c3)) 28):=⟨_,rfl⟩
 have hbV : Below w.heap.size w V:=hV ▸ below1 w _
 rw [← hV] at hx0
 have HX:=lH hx0
 have hn3 : n3≤1000000:=by omega
 have HE3:=lH e3
 obtain ⟨r0,r1,r2,r3,r4,r5⟩:=hx0.cells
 simp only at r0 r1 r2 r3 r4 r5
 have z3:=hx0.lt
 have HV:=lH hV
 rw [hV] at r0 r1 r2 r3 r4 r5 z3
 clear h hx0 hB h5 e1 e2 e3 hV
 go_enter Tryz.func60,Tryz.ntmps60
 go_wp2
 rw [← HV.out]
 go_loopw [4,8] (fun _ i wr=>∃ k : Nat,k≤n3∧i=.int .i64 k∧Below V.heap.size V wr∧only lb lq (od.take k)=true) (fun _ i _=>n3 - (intOf i).toNat)
 case atStart=>exact ⟨0,Nat.zero_le _,rfl,Below.refl _ _,by simp [only]⟩
 case round =>
  obtain ⟨k,hk,rfl,hb,ho⟩:=hrel
  have HO:=lH ho
  have hbw:=nx hbV hb
  have hxr:=HX.out.stays hb
  clear ho r0 r1 r2 r3 r4 r5 z3
  obtain ⟨r0,r1,r2,r3,r4,r5⟩:=hxr.cells
  simp only at r0 r1 r2 r3 r4 r5
  have zr : w.heap.size<wr.heap.size:=hxr.lt
  by_cases hlt : k<n3
  ·have hlt2 : (k : Int)<n3:=by omega
   have hko : k<od.length:=by rw [HE3.out];exact hlt
   have hl:=hxr.l3
   simp only at hl
   rw [← HE3.out] at hl
   rcases hl.cases with ⟨e,_⟩ | ⟨_,g,off,cc,e,hat⟩
   ·rw [e] at hko;cases hko
   simp only [Value.slice.injEq] at e
   obtain ⟨rfl,_,rfl⟩:=e
   obtain ⟨s0,s1,s2⟩:=Ac.at3 hat k hko
   have hbb:=hat.1
   have hst:=only_take (b:=lb) (q:=lq) hko
   rw [HO.out,Bool.true_and] at hst
   obtain ⟨⟨x,y,z⟩,hx⟩ : ∃ x,od[k]'hko=x:=⟨_,rfl⟩
   rw [hx] at s0 s1 s2 hst
   simp only at s0 s1 s2
   have HSt:=lH (show only lb lq (od.take (k+1))=(y==lb||y==lq) from hst)
   have hHx:=lH hx
   clear hst hx hat hl hxr
   by_cases d1 : y=lb
   ·have f1 : (y != lb)=false:=by simpa using d1
    have HS1 : Hid (only lb lq (od.take (k+1))=true):=lH (by rw [HSt.out,Bool.or_eq_true];exact .inl (by simpa using d1))
    clear d1
    go_wp2
    go_roundw
    case rel=>exact ⟨k+1,by omega,by go_num,nx hb (below1 _ _),HS1.out⟩
    case measure=>simp [intOf];omega
   ·have f1 : (y != lb)=true:=by simpa using d1
    by_cases d2 : y=lq
    ·have f2 : (y != lq)=false:=by simpa using d2
     have HS1 : Hid (only lb lq (od.take (k+1))=true):=lH (by rw [HSt.out,Bool.or_eq_true];exact .inr (by simpa using d2))
     clear d1 d2
     go_wp2
     go_roundw
     case rel=>exact ⟨k+1,by omega,by go_num,nx hb (below1 _ _),HS1.out⟩
     case measure=>simp [intOf];omega
    ·have f2 : (y != lq)=true:=by simpa using d2
     have HZ : Hid (only lb lq od=false):=lH (by
      refine only_no hko ?_
      rw [hHx.out]
      show (y==lb||y==lq)=false
      simp [d1,d2])
     clear d1 d2
     go_wp2
     go_ret
     exact ⟨ret_bool HZ.out.symm,nx hbw (below1 _ _)⟩
  ·obtain rfl : k=n3:=by omega
   have HZ : Hid (only lb lq od=true):=lH (by rw [← HO.out,← HE3.out,List.take_length])
   go_wp2
   go_ret
   exact ⟨ret_bool HZ.out.symm,hbw⟩
theorem owes_is {B : Bs} {l : Ln} {v : Value} {w : World} {r : Bool} (hr : Hid (only l.1 l.2.1 l.2.2.2=r)) (h : LN B l v w) (hB : B.le w.heap.size) (h5 : l.2.2.2.length≤1000000) :
  Calls Tryz.prog 60 #[v] w fun e w'=>e=.returned (.bool r)∧Below w.heap.size w w':=by
 rw [← hr.out];exact owes_any B l v w h hB h5
theorem rightB_is {B : Bs} {b : Bk} {v : Value} {w : World} {r : Bool} (hr : Hid (rightB b=r)) (h : BL B b v w) (hB : B.le w.heap.size) (h1 : b.1.length≤1000) (h2 : (flat b.1).length≤1000) (h3 : b.2.1.length≤1000) (h4 : (flat b.2.1).length≤1000) :
  Calls Tryz.prog 59 #[v] w fun e w'=>e=.returned (.bool r)∧Below w.heap.size w w':=by
 rw [← hr.out];exact right_anyB B b v w h hB h1 h2 h3 h4
theorem aright_is {lo : Nat} {l : List Hd} {v : Value} {w : World} {r : Bool} (hr : Hid (Ac.right l=r)) (h : HL lo l v w) (hm : l.length≤1000000) :
  Calls Tryz.prog 28 #[v] w fun e w'=>e=.returned (.bool r)∧Below w.heap.size w w':=by
 rw [← hr.out];exact Ac.right_any l v w h hm
theorem lright_any (B : Bs) (l : Ln) (v : Value) (w : World) (h : LN B l v w) (hB : B.le w.heap.size) (hs : Sm l) :
  Calls Tryz.prog 24 #[v] w fun e w'=>e=.returned (.bool (rightN l))∧Below w.heap.size w w':=by
 obtain ⟨lb,lq,⟨bu,se,nn⟩,od⟩:=l
 obtain ⟨a1,n1,c1,a2,n2,c2,a3,n3,c3,rfl,e1,e2,e3,hx0⟩:=ln_box h hB
 have hm5 : od.length≤1000000:=Nat.le_trans hs.m5 (by decide)
 have HSm:=lH (And.intro hs hm5)
 obtain ⟨V,hV⟩ : ∃ V,V=w.alloc (.cells (cN lb lq (.slice a1 n1 c1) (.slice a2 n2 c2) nn (.slice a3 n3 c3)) 28):=⟨_,rfl⟩
 have hbV : Below w.heap.size w V:=hV ▸ below1 w _
 rw [← hV] at hx0
 have HX:=lH hx0
 have HB:=lH (show ∀ u,Below w.heap.size w u→B.le u.heap.size from fun u hu=>hB.mono hu.size)
 obtain ⟨r0,r1,r2,r3,r4,r5⟩:=hx0.cells
 simp only at r0 r1 r2 r3 r4 r5
 have z3:=hx0.lt
 have rr:=hx0.row
 simp only at rr
 have HV:=lH hV
 rw [hV] at r0 r1 r2 r3 r4 r5 z3 rr
 obtain ⟨x1,hx1⟩ : ∃ r,isA lb=r:=⟨_,rfl⟩
 obtain ⟨x2,hx2⟩ : ∃ r,isA lq=r:=⟨_,rfl⟩
 obtain ⟨x3,hx3⟩ : ∃ r,(lb != lq)=r:=⟨_,rfl⟩
 obtain ⟨x4,hx4⟩ : ∃ r,rightB (bu,se,nn)=r:=⟨_,rfl⟩
 obtain ⟨x5,hx5⟩ : ∃ r,Ac.right od=r:=⟨_,rfl⟩
 obtain ⟨x6,hx6⟩ : ∃ r,only lb lq od=r:=⟨_,rfl⟩
 have HZ : Hid (rightN (lb,lq,(bu,se,nn),od)=(x1&&x2&&x3&&x4&&x5&&x6)):=lH (by unfold rightN;simp only;rw [pairOk_isA,hx1,hx2,hx3,hx4,hx5,hx6])
 have H1:=lH hx1
 have H2:=lH hx2
 have H4:=lH hx4
 have H5:=lH hx5
 have H6:=lH hx6
 clear h hx0 hB hs hm5 e1 e2 e3 hV hx1 hx2 hx4 hx5 hx6
 go_enter Tryz.func24,Tryz.ntmps24
 go_wp2_with fail
 refine (isA_is H1 _).mono ?_
 rintro e w1 ⟨rfl,rfl⟩
 cases x1
 ·go_wp2
  go_ret
  exact ⟨by rw [HZ.out];rfl,HV.out ▸ hbV⟩
 go_wp2_with fail
 refine (isA_is H2 _).mono ?_
 rintro e w1 ⟨rfl,rfl⟩
 cases x2
 ·go_wp2
  go_ret
  exact ⟨by rw [HZ.out];rfl,HV.out ▸ hbV⟩
 cases x3
 ·go_wp2
  go_ret
  exact ⟨by rw [HZ.out];rfl,HV.out ▸ hbV⟩
 go_wp2_with fail
 rw [← HV.out]
 refine (rightB_is H4 HX.out.bl (HB.out V hbV) HSm.out.1.m1 HSm.out.1.m2 HSm.out.1.m3 HSm.out.1.m4).mono ?_
 rintro e w2 ⟨rfl,hb2⟩
 have hbw2:=nx hbV hb2
 have HX2:=lH (HX.out.stays hb2)
 cases x4
 ·go_wp2
  go_ret
  exact ⟨by rw [HZ.out];rfl,hbw2⟩
 clear r0 r1 r2 r3 r4 r5 z3 rr
 obtain ⟨r0,r1,r2,r3,r4,r5⟩:=HX2.out.cells
 simp only at r0 r1 r2 r3 r4 r5
 have z2 : w.heap.size<w2.heap.size:=HX2.out.lt
 go_wp2_with fail
 refine (aright_is H5 HX2.out.l3 HSm.out.2).mono ?_
 rintro e w3 ⟨rfl,hb3⟩
 have hbw3:=nx hbw2 hb3
 have HX3:=lH (HX2.out.stays hb3)
 cases x5
 ·go_wp2
  go_ret
  exact ⟨by rw [HZ.out];rfl,hbw3⟩
 clear r0 r1 r2 r3 r4 r5 z2
 have rr:=HX3.out.row
 simp only at rr
 have z3 : w.heap.size<w3.heap.size:=HX3.out.lt
 go_wp2_with fail
 refine (owes_is (l:=(lb,lq,(bu,se,nn),od)) H6 HX3.out.ln (HB.out w3 hbw3) HSm.out.2).mono ?_
 rintro e w4 ⟨rfl,hb4⟩
 go_wp2
 go_ret
 exact ⟨by rw [HZ.out];rfl,nx hbw3 hb4⟩
theorem lright_is {B : Bs} {l : Ln} {v : Value} {w : World} {r : Bool} (hr : Hid (rightN l=r)) (h : LN B l v w) (hB : B.le w.heap.size) (hs : Sm l) :
  Calls Tryz.prog 24 #[v] w fun e w'=>e=.returned (.bool r)∧Below w.heap.size w w':=by
 rw [← hr.out];exact lright_any B l v w h hB hs
theorem areRight_any (B : Bs) (l : Ln) (v : Value) (fr : List Hd) (fv : Value) (w : World) (h : LN B l v w) (hf : HL B.lo fr fv w) (hB : B.le w.heap.size) (hs : Sm l) (hm : fr.length≤1000) :
  Calls Tryz.prog 35 #[v,fv] w fun e w'=>e=.returned (.bool (rightN l&&Ac.right fr))∧Below w.heap.size w w':=by
 obtain ⟨x1,hx1⟩ : ∃ r,rightN l=r:=⟨_,rfl⟩
 obtain ⟨x2,hx2⟩ : ∃ r,Ac.right fr=r:=⟨_,rfl⟩
 have H1:=lH hx1
 have H2:=lH hx2
 rw [hx1,hx2]
 have HSm:=lH (And.intro hs (Nat.le_trans hm (by decide : 1000≤1000000)))
 obtain ⟨lb,lq,⟨bu,se,nn⟩,od⟩:=l
 obtain ⟨a1,n1,c1,a2,n2,c2,a3,n3,c3,rfl,e1,e2,e3,hx0⟩:=ln_box h hB
 obtain ⟨V,hV⟩ : ∃ V,V=w.alloc (.cells (cN lb lq (.slice a1 n1 c1) (.slice a2 n2 c2) nn (.slice a3 n3 c3)) 28):=⟨_,rfl⟩
 have hbV : Below w.heap.size w V:=hV ▸ below1 w _
 rw [← hV] at hx0
 have HX:=lH hx0
 have HF:=lH (hl_stays hf hbV)
 have HB:=lH (hB.mono hbV.size)
 have r0:=hx0.row
 simp only at r0
 have HV:=lH hV
 rw [hV] at r0
 clear h hf hx0 hB hs hm e1 e2 e3 hV hx1 hx2
 go_enter Tryz.func35,Tryz.ntmps35
 go_wp2_with fail
 rw [← HV.out]
 refine (lright_is H1 HX.out.ln HB.out HSm.out.1).mono ?_
 rintro e w1 ⟨rfl,hb1⟩
 have hbw1:=nx hbV hb1
 cases x1
 ·go_wp2
  go_ret
  exact ⟨rfl,hbw1⟩
 have HF1:=lH (hl_stays HF.out hb1)
 go_wp2_with fail
 refine (aright_is H2 HF1.out HSm.out.2).mono ?_
 rintro e w2 ⟨rfl,hb2⟩
 go_wp2
 go_ret
 exact ⟨rfl,nx hbw1 hb2⟩
theorem areRight_is {B : Bs} {l : Ln} {v : Value} {fr : List Hd} {fv : Value} {w : World} {r : Bool} (hr : Hid ((rightN l&&Ac.right fr)=r)) (h : LN B l v w) (hf : HL B.lo fr fv w) (hB : B.le w.heap.size) (hs : Sm l) (hm : fr.length≤1000) :
  Calls Tryz.prog 35 #[v,fv] w fun e w'=>e=.returned (.bool r)∧Below w.heap.size w w':=by
 rw [← hr.out];exact areRight_any B l v fr fv w h hf hB hs hm
theorem lowed_any (B : Bs) (l : Ln) (v : Value) (a : Int) (w : World) (h : LN B l v w) (hB : B.le w.heap.size) (hs : Sm l) :
  Calls Tryz.prog 22 #[v,.int .i64 a] w fun e w'=>e=.returned (.int .i64 (owedN l a))∧Below w.heap.size w w':=by
 obtain ⟨x1,hx1⟩ : ∃ r,rightN l=r:=⟨_,rfl⟩
 obtain ⟨N,hN⟩ : ∃ N,owedN l a=N:=⟨_,rfl⟩
 have H1:=lH hx1
 have HN:=lH hN
 rw [hN]
 have HSm:=lH (And.intro hs (Nat.le_trans hs.m5 (by decide : 1000≤1000000)))
 obtain ⟨lb,lq,⟨bu,se,nn⟩,od⟩:=l
 obtain ⟨a1,n1,c1,a2,n2,c2,a3,n3,c3,rfl,e1,e2,e3,hx0⟩:=ln_box h hB
 obtain ⟨V,hV⟩ : ∃ V,V=w.alloc (.cells (cN lb lq (.slice a1 n1 c1) (.slice a2 n2 c2) nn (.slice a3 n3 c3)) 28):=⟨_,rfl⟩
 have hbV : Below w.heap.size w V:=hV ▸ below1 w _
 rw [← hV] at hx0
 have HX:=lH hx0
 have HB:=lH (hB.mono hbV.size)
 have r0:=hx0.row
 simp only at r0
 have HV:=lH hV
 rw [hV] at r0
 clear h hx0 hB hs e1 e2 e3 hV hx1 hN
 go_enter Tryz.func22,Tryz.ntmps22
 go_wp2_with fail
 rw [← HV.out]
 refine (lright_is H1 HX.out.ln HB.out HSm.out.1).mono ?_
 rintro e w1 ⟨rfl,hb1⟩
 have hbw1:=nx hbV hb1
 have HX1:=lH (HX.out.stays hb1)
 clear r0
 obtain ⟨r0,r1,r2,r3,r4,r5⟩:=HX1.out.cells
 simp only at r0 r1 r2 r3 r4 r5
 have z1 : w.heap.size<w1.heap.size:=HX1.out.lt
 cases x1
 ·have HZ : Hid (N=0):=lH (by rw [← HN.out];unfold owedN;rw [H1.out,if_neg (by decide)])
  go_wp2
  go_ret
  exact ⟨ret_int HZ.out.symm,hbw1⟩
 ·have HZ : Hid (N=total od a):=lH (by rw [← HN.out];unfold owedN;rw [H1.out,if_pos rfl])
  go_wp2_with fail
  refine (Ac.total_any od _ a w1 HX1.out.l3 HSm.out.2).mono ?_
  rintro e w2 ⟨rfl,hb2⟩
  go_wp2
  go_ret
  exact ⟨ret_int HZ.out.symm,nx hbw1 hb2⟩
theorem need_any (s p n : Int) (w : World) (hp : 0≤p∧p≤1048576) (hn : 0≤n∧n≤1048576) :
  Calls Tryz.prog 37 #[.int .i64 s,.int .i64 p,.int .i64 n] w fun e w'=>e=.returned (.int .i64 (ndN s p n))∧w=w':=by
 have hm:=mul_bd hp.1 hp.2 hn.1 hn.2
 obtain ⟨m,hpm⟩ : ∃ m,p*n=m:=⟨_,rfl⟩
 rw [hpm] at hm
 by_cases h : s=1
 ·have hd : (s==1)=true:=by simpa using h
  have H2 : Hid (ndN s p n=m):=lH ((if_pos h).trans hpm)
  clear h hp hn
  go_enter Tryz.func37,Tryz.ntmps37
  go_wp2
  go_ret
  exact ⟨ret_int H2.out.symm,rfl⟩
 ·have hd : (s==1)=false:=by simpa using h
  have H2 : Hid (ndN s p n=n):=lH (if_neg h)
  clear h hp hn hpm hm
  go_enter Tryz.func37,Tryz.ntmps37
  go_wp2
  go_ret
  exact ⟨ret_int H2.out.symm,rfl⟩
def othS (s : Int) : Int:=if s=1 then 2 else 1
theorem other_any (s : Int) (w : World) : Calls Tryz.prog 91 #[.int .i64 s] w fun e w'=>e=.returned (.int .i64 (othS s))∧w=w':=by
 by_cases h : s=1
 ·have hd : (s==1)=true:=by simpa using h
  have H2 : Hid (othS s=2):=lH (if_pos h)
  clear h
  go_enter Tryz.func91,Tryz.ntmps91
  go_wp2
  go_ret
  exact ⟨ret_int H2.out.symm,rfl⟩
 ·have hd : (s==1)=false:=by simpa using h
  have H2 : Hid (othS s=1):=lH (if_neg h)
  clear h
  go_enter Tryz.func91,Tryz.ntmps91
  go_wp2
  go_ret
  exact ⟨ret_int H2.out.symm,rfl⟩
theorem ret_P1 {fn : Func} {p : Tmp} (h : fn.results=#[.cell p 53]) (tmps : Array Value) (w : World) {cs : Array Value} (hs : cs.size=2) (hr : rowOf w (tmps.getD p undef)=cs) : (results fn tmps).run Tryz.prog w=.ok (.agg cs) w :=
 ret1 (n:=1) h Tryz.underlying53 rfl (by kernel_rfl) tmps w hs hr
theorem fieldP1 (a b : Int) (w : World) : (Instr.field 53 (.agg #[.int .i64 a,.int .i64 b]) 1).run Tryz.prog w=.ok (.int .i64 b) w:=by kernel_rfl
attribute [go_sem] fieldP1
theorem lpurse_any (lb lq nn : Int) (a1 a2 a3 : Option Addr) (n1 c1 n2 c2 n3 c3 : Nat) (ow s : Int) (w : World) :
  Calls Tryz.prog 38 #[.agg (cN lb lq (.slice a1 n1 c1) (.slice a2 n2 c2) nn (.slice a3 n3 c3)),.int .i64 ow,.int .i64 s] w fun e w'=>e=.returned (.agg #[.int .i64 ow,.int .i64 (ndA lb lq s)])∧Below w.heap.size w w':=by
 by_cases h : s=1
 ·have hd : (s==1)=true:=by simpa using h
  have H1 : Hid (ndA lb lq s=lq):=lH (if_pos h)
  clear h
  go_enter Tryz.func38,Tryz.ntmps38
  go_wp2
  refine bodyPost_ret (v:=.agg #[.int .i64 ow,.int .i64 lq]) (ret_P1 Tryz.results38 _ _ rfl ?c1) rfl ⟨by rw [H1.out],?c2⟩
  case c1=>simp [go_sem]
  case c2=>exact below2 _ _ _
 ·have hd : (s==1)=false:=by simpa using h
  have H1 : Hid (ndA lb lq s=lb):=lH (if_neg h)
  clear h
  go_enter Tryz.func38,Tryz.ntmps38
  go_wp2
  refine bodyPost_ret (v:=.agg #[.int .i64 ow,.int .i64 lb]) (ret_P1 Tryz.results38 _ _ rfl ?c1) rfl ⟨by rw [H1.out],?c2⟩
  case c1=>simp [go_sem]
  case c2=>exact below2 _ _ _
end Go.Proofs.YthecinmekoaphaaGreat.La
namespace Go.Proofs.YthecinmekoaphaaGreat.La
open Go.RowKit
open Rw
open Da
open Le
open Bk
open Ro
open Ac (Hd Pu HL pmay pmay_iff tot total giveE giveL takeE takeL)
theorem eqlH (a : Option Addr) (n c : Nat) (w : World) : (binOp .eql 26 (.slice a n c) (.slice none 0 0)).run Tryz.prog w=.ok (.bool a.isNone) w:=Lib.run_eql_slice_nil w _ _ a n c 0 0 Tryz.underlying26
theorem guardH (p q : Operand) (a : Option Addr) (n c : Nat) (w : World) : (eqGuard .eql 26 p q (.slice a n c) (.slice none 0 0)).run Tryz.prog w=.ok () w:=rfl
theorem eqlLv (a : Option Addr) (n c : Nat) (w : World) : (binOp .eql 23 (.slice a n c) (.slice none 0 0)).run Tryz.prog w=.ok (.bool a.isNone) w:=Lib.run_eql_slice_nil w _ _ a n c 0 0 Tryz.underlying23
theorem guardLv (p q : Operand) (a : Option Addr) (n c : Nat) (w : World) : (eqGuard .eql 23 p q (.slice a n c) (.slice none 0 0)).run Tryz.prog w=.ok () w:=rfl
attribute [go_sem ↓] eqlH guardH eqlLv guardLv
def fH : Flat Hd:=⟨3,Ac.enc,fun _=>rfl,fun o u hu=>by simp [Ac.enc] at hu;rcases hu with rfl | rfl | rfl<;>rfl⟩
abbrev RowH (g cap : Nat) (l : List Hd) (w : World) : Prop:=Row fH 55 g cap l w
theorem cloneH_any {lo : Nat} (l : List Hd) (x : Value) (w : World) (h : HL lo l x w) (hlo : lo≤w.heap.size) (hm : l.length≤1000000) :
  Calls Tryz.prog 39 #[x] w (Post (Own eH 55 (Bs.of lo) w.heap.size l) w):=by
 have hi:=hl_is h
 obtain ⟨a2,c2,rfl,hel⟩:=id hi
 cases a2 with
 | none =>
  rcases hel with ⟨rfl,hc⟩ | ⟨b,off,e,_⟩
  ·obtain rfl:=hc rfl
   clear h hi
   go_enter Tryz.func39,Tryz.ntmps39
   go_wp2
   go_ret
   exact ⟨_,rfl,Below.refl _ _,Own.nil _ _ _⟩
  ·cases e
 | some ad =>
  have hb1:=below1 w (.cells #[] 55)
  obtain ⟨v2,w2,hrun,hown2,_,hbl,_⟩:=Own.append elemH 26 typesH (B:=Bs.of lo) (Bo:=w.heap.size) (l:=[]) ⟨hlo,fun _ h=>h.elim⟩ hb1.size (Own.made _ w _ (Nat.le_refl _)) (Is.stays eH 55 hi hb1) (by simp;omega) (by decide)
  have hb2:=hbl _ _ (Nat.le_refl _) hb1
  have HO:=lH hown2
  obtain ⟨m,hmm⟩ : ∃ m,m=l.length:=⟨_,rfl⟩
  rw [← hmm] at hrun ⊢
  clear hown2 hbl h hel hmm hi
  go_enter Tryz.func39,Tryz.ntmps39
  go_wp2
  go_ret
  exact ⟨_,rfl,hb2,HO.out⟩
theorem choose_list {α β : Type} {P : Nat→α→β→Prop} : ∀ {l : List α},(∀ i x,l[i]?=some x→∃ y,P i x y)→∃ hs : List β,hs.length=l.length∧∀ i x y,l[i]?=some x→hs[i]?=some y→P i x y:=by
 intro l
 induction l generalizing P with
 | nil=>intro _;exact ⟨[],rfl,by simp⟩
 | cons a l ih =>
  intro h
  obtain ⟨y,hy⟩:=h 0 a rfl
  obtain ⟨hs,h1,h2⟩:=ih (P:=fun i=>P (i+1)) fun i x hx=>h (i+1) x (by simpa using hx)
  refine ⟨y :: hs,by simp [h1],fun i x z hx hz=>?_⟩
  cases i with
  | zero =>
   obtain rfl : a=x:=by simpa using hx
   obtain rfl : y=z:=by simpa using hz
   exact hy
  | succ i=>exact h2 i x z (by simpa using hx) (by simpa using hz)
theorem ll_hs {B : Bs} {l : List Lv} {v : Value} {w : World} (h : LL B l v w) : ∃ hs,Is eF 98 B hs v w∧LvS B l hs w:=by
 obtain ⟨a,c,rfl,hc⟩:=h
 rcases hc with ⟨rfl,hc⟩ | ⟨b,off,rfl,hb,hb2,hat⟩
 ·exact ⟨[],⟨a,c,rfl,.inl ⟨rfl,hc⟩⟩,LvS.nil B w⟩
 ·have hP : ∀ (i : Nat) (x : Lv),l[i]?=some x→∃ y : Hw,(y.1=x.1∧OL B x.2 (hv y) w)∧∀ j u,([Value.int .i64 y.1,hv y] : List Value)[j]?=some u→w.cell? ⟨b,off+i*2+j,none⟩=some u:=fun i x hx=>by
   obtain ⟨cs,h1,h2⟩:=hat i x hx
   obtain ⟨xv,rfl,ho⟩:=eL_cells h1
   obtain ⟨a',c',rfl⟩:=ho.len
   exact ⟨(x.1,a',x.2.length,c'),⟨rfl,ho⟩,h2⟩
  obtain ⟨hs,hl,hh⟩:=choose_list hP
  refine ⟨hs,⟨_,c,by rw [hl],.inr ⟨b,off,rfl,hb,hb2,fun i y hy=>⟨_,rfl,?_⟩⟩⟩,hl,fun i x y hx hy=>(hh i x y hx hy).1⟩
  have hi : i<l.length:=by rw [← hl];exact (List.getElem?_eq_some_iff.1 hy).1
  exact (hh i _ y (List.getElem?_eq_getElem hi) hy).2
theorem cloneLv_any (B : Bs) (l : List Lv) (x : Value) (w : World) (h : LL B l x w) (hB : B.le w.heap.size) (hm : l.length≤1000000) :
  Calls Tryz.prog 82 #[x] w (Post (fun v u=>∃ hs,Own eF 98 B w.heap.size hs v u∧LvS B l hs u) w):=by
 obtain ⟨hs,hi,hv⟩:=ll_hs h
 have hlen:=hv.len
 obtain ⟨a2,c2,rfl,hel⟩:=id hi
 cases a2 with
 | none =>
  rcases hel with ⟨rfl,hc⟩ | ⟨b,off,e,_⟩
  ·obtain rfl:=hc rfl
   have HV:=lH hv
   clear h hi hv
   go_enter Tryz.func82,Tryz.ntmps82
   go_wp2
   go_ret
   exact ⟨_,rfl,Below.refl _ _,[],Own.nil _ _ _,HV.out⟩
  ·cases e
 | some ad =>
  have hb1:=below1 w (.cells #[] 98)
  obtain ⟨v2,w2,hrun,hown2,_,hbl,_⟩:=Own.append elemF 23 typesF hB hb1.size (Own.made B w w.heap.size (Nat.le_refl _)) (Is.stays eF 98 hi hb1) (by simp;omega) (by decide)
  have hb2:=hbl _ _ (Nat.le_refl _) hb1
  have HO:=lH hown2
  have HV:=lH (hv.keep (Keeps.of_below hb2))
  obtain ⟨m,hmm⟩ : ∃ m,m=hs.length:=⟨_,rfl⟩
  rw [← hmm] at hrun ⊢
  clear hown2 hbl h hel hmm hi hv hlen
  go_enter Tryz.func82,Tryz.ntmps82
  go_wp2
  go_ret
  exact ⟨_,rfl,hb2,_,HO.out,HV.out⟩
theorem lvs_set {B : Bs} {L : List Lv} {ms : List Hw} {w : World} (h : LvS B L ms w) {k : Nat} {x : Lv} {y : Hw} (hx : L[k]?=some x) (hp : y.1=x.1) (hy : OL B x.2 (hv y) w) : LvS B L (ms.set k y) w:=by
 refine ⟨by rw [List.length_set];exact h.len,fun i a b ha hb=>?_⟩
 by_cases e : k=i
 ·subst e
  have hk : k<ms.length:=by rw [h.len];exact (List.getElem?_eq_some_iff.1 hx).1
  rw [List.getElem?_set_self hk] at hb
  rw [hx] at ha
  obtain rfl:=Option.some.inj ha
  obtain rfl:=Option.some.inj hb
  exact ⟨hp,hy⟩
 ·rw [List.getElem?_set_ne e] at hb
  exact h.at' i a b ha hb
theorem cloneO_is {B : Bs} {os : List Od} {x : Value} {w : World} (h : OL B os x w) (hB : B.le w.heap.size) (hm : os.length≤1000000) :
  Calls Tryz.prog 83 #[x] w fun e w'=>∃ a c,e=.returned (.slice a os.length c)∧Below w.heap.size w w'∧OwnO B w.heap.size os (.slice a os.length c) w':=by
 refine (cloneO_any B os x w h hB hm).mono ?_
 rintro e w' ⟨v,rfl,hb,ho⟩
 obtain ⟨a,c,rfl⟩:=(ho.is (by decide) hB).len
 exact ⟨a,c,rfl,hb,ho⟩
theorem lcloned_any (B : Bs) (l : List Lv) (v : Value) (w : World) (h : LL B l v w) (hB : B.le w.heap.size) (hm : l.length≤1000000) (hf : (flat l).length≤1000000) :
  Calls Tryz.prog 45 #[v] w (Post (LL B l) w):=by
 have HH:=lH h
 have HC:=lH (cloneLv_any B l v w h hB hm)
 have HB:=lH (show ∀ u,Below w.heap.size w u→B.le u.heap.size from fun u hu=>hB.mono hu.size)
 have HF:=lH hf
 obtain ⟨a1,c1,rfl,h1⟩:=h
 have HA:=lH h1
 obtain ⟨n,hn⟩ : ∃ n,n=l.length:=⟨_,rfl⟩
 rw [← hn] at hm HC ⊢
 have HN:=lH hn
 clear h1 hn hf hB
 go_enter Tryz.func45,Tryz.ntmps45
 go_wp2_with fail
 refine HC.out.mono ?_
 rintro e w2 ⟨v2,rfl,hb2,hs,hown,hlv⟩
 have hB2:=HB.out w (Below.refl _ _)
 have hsl : hs.length=n:=by rw [hlv.len,HN.out]
 by_cases h0 : n=0
 ·subst h0
  have HZ : Hid (LL B l v2 w2):=lH (hlv.ll (hown.is (by decide) hB2))
  clear hown hlv
  go_wp2
  go_loopw [4,5,10] (fun _ _ i wr=>i=.int .i64 0∧Below w2.heap.size w2 wr) (fun _ _ i _=>0)
  case atStart=>exact ⟨rfl,Below.refl _ _⟩
  case round =>
   obtain ⟨rfl,hb⟩:=hrel
   go_wp2
   go_ret
   exact ⟨_,rfl,nx hb2 hb,Is.stays eL 98 HZ.out hb⟩
 rcases Row.ofOwn (e:=fF) (show Own fF.enc 98 B w.heap.size hs v2 w2 from hown) with ⟨_,e⟩ | ⟨g,cap,rfl,hg,hcap,hrow⟩
 ·rw [e] at hsl;simp at hsl;omega
 rw [hsl]
 have HR:=lH hrow
 have HV:=lH hlv
 have HCap:=lH hcap
 clear hown hlv hrow hsl hcap
 go_wp2
 go_loopw [4,5,10] (fun _ _ i wr=>∃ (k : Nat) (xs : List Hw),k≤n∧i=.int .i64 k∧Below w.heap.size w wr∧RowF g cap xs wr∧LvS B l xs wr) (fun _ _ i _=>n - (intOf i).toNat)
 case atStart=>exact ⟨0,hs,Nat.zero_le _,rfl,hb2,HR.out,HV.out⟩
 case round =>
  obtain ⟨k,xs,hk,rfl,hb,hrow,hlv⟩:=hrel
  have HRw:=lH hrow
  have HVw:=lH hlv
  have hxl : xs.length=n:=by rw [hlv.len,HN.out]
  clear hrow hlv
  by_cases hlt : k<n
  ·have hlt2 : (k : Int)<n:=by omega
   have hkl : k<l.length:=by rw [← HN.out];exact hlt
   rcases HA.out with ⟨e,_⟩ | ⟨b,off,rfl,hat⟩
   ·rw [e] at hkl;cases hkl
   have hat2:=Lies.keep eL 98 hat (Keeps.of_below hb)
   have hbb:=hat2.1
   obtain ⟨x,q0,q1,hx⟩:=atL hat2 k hkl
   have hle:=flat_take_le l (k+1)
   rw [flat_take_snoc hkl,List.length_append] at hle
   obtain ⟨⟨pr,os⟩,hlk⟩ : ∃ y,l[k]'hkl=y:=⟨_,rfl⟩
   rw [hlk] at q0 hx hle
   simp only at q0 hx hle
   have hosl : os.length≤1000000:=by have:=HF.out;omega
   obtain ⟨a2,c2,rfl⟩:=hx.len
   have hgz:=HRw.out.lt
   have hxk : xs[k]?=some (xs[k]'(by omega)):=List.getElem?_eq_getElem (by omega)
   obtain ⟨⟨p0,p1,p2,p3⟩,hxy⟩ : ∃ y,xs[k]'(by omega)=y:=⟨_,rfl⟩
   rw [hxy] at hxk
   have hlk2 : l[k]?=some (pr,os):=by rw [← hlk];exact List.getElem?_eq_getElem hkl
   have hp0 : p0=pr:=(HVw.out.at' k _ _ hlk2 hxk).1
   subst hp0
   obtain ⟨V,hV⟩ : ∃ V,V=wr.alloc (.cells #[.int .i64 p0,.slice a2 os.length c2] 98):=⟨_,rfl⟩
   have hbV : Below wr.heap.size wr V:=hV ▸ below1 wr _
   have hbw:=nx hb hbV
   have HX:=lH (Is.stays eO 70 hx hbV)
   have HXk:=lH hxk
   have HLk:=lH hlk2
   have HbV:=lH hbV
   have hV2:=lH hV
   clear hx hat hat2 hlk hle hxk hlk2 hxy hV
   go_wp2_with fail
   rw [← hV2.out]
   refine (cloneO_is HX.out (HB.out V hbw) hosl).mono ?_
   rintro e w3 ⟨a3,c3,rfl,hb3,ho3⟩
   have hb4:=nx HbV.out hb3
   have hbw3:=nx hb hb4
   have hrw3:=HRw.out.stays hb4
   have hlv3:=HVw.out.keep (Keeps.of_below hb4)
   obtain ⟨_,s1,_,f1⟩:=rowF_at hrw3 HXk.out
   have z3:=hrw3.lt
   have hset:=hrw3.setCell (i:=k) (j:=1) (x:=(p0,p1,p2,p3)) (y:=(p0,a3,os.length,c3)) (u:=.slice a3 os.length c3) HXk.out (by decide) rfl
   have hgr:=setCell_grown w3 g (k*2+1) (.slice a3 os.length c3)
   have hkp : Da.Keeps B [70] w3 (w3.setCell ⟨g,k*2+1,none⟩ (.slice a3 os.length c3)):=hrw3.keeps (by have:=(HB.out w (Below.refl _ _)).1;omega) (by decide) hgr
   have hlvS:=lvs_set (hlv3.keep hkp) (y:=(p0,a3,os.length,c3)) HLk.out rfl (Is.keep eO 70 (ho3.is (by decide) (HB.out V hbw)) hkp)
   have HS1:=lH hset
   have HS2:=lH hlvS
   have HS3:=lH (hbw3.trans (low_setCell (k*2+1) (.slice a3 os.length c3) hg))
   clear hrw3 hlv3 hset hgr hkp hlvS ho3 hbw3
   go_wp2
   go_roundw
   case rel=>exact ⟨k+1,_,by omega,by go_num,HS3.out,HS1.out,HS2.out⟩
   case measure=>simp [intOf];omega
  ·obtain rfl : k=n:=by omega
   have HZ : Hid (LL B l (.slice (some ⟨g,0,none⟩) k cap) wr):=lH (by
    have:=rowF_ll (Bo:=w.heap.size) (HB.out w (Below.refl _ _)) hg HCap.out HVw.out HRw.out
    rwa [hxl] at this)
   go_wp2
   go_ret
   exact ⟨_,rfl,hb,HZ.out⟩
end Go.Proofs.YthecinmekoaphaaGreat.La
namespace Go.Proofs.YthecinmekoaphaaGreat.La
open Go.RowKit
open Rw
open Da
open Le
open Bk
open Ac (Hd Pu HL pmay pmay_iff tot total giveE giveL takeE takeL)
structure VB (B : Bs) (l : Ln) (x y o : Value) (s : Nat) (w : World) : Prop where
 bk : w.heap[s]?=some (.cells (cN l.1 l.2.1 x y l.2.2.1.2.2 o) 74 (0,0))
 lo : B.lo≤s
 l1 : LL B l.2.2.1.1 x w
 l2 : LL B l.2.2.1.2.1 y w
 l3 : HL B.lo l.2.2.2 o w
theorem VB.lt {B : Bs} {l : Ln} {x y o : Value} {s : Nat} {w : World} (h : VB B l x y o s w) : s<w.heap.size:=(Array.getElem?_eq_some_iff.1 h.bk).1
theorem VB.stays {B : Bs} {l : Ln} {x y o : Value} {s : Nat} {w w' : World} (h : VB B l x y o s w) (hb : Below w.heap.size w w') : VB B l x y o s w' :=
 ⟨(hb.block s h.lt).trans h.bk,h.lo,Is.stays eL 98 h.l1 hb,Is.stays eL 98 h.l2 hb,hl_stays h.l3 hb⟩
theorem VB.row {B : Bs} {l : Ln} {x y o : Value} {s : Nat} {w : World} (h : VB B l x y o s w) : row w s=cN l.1 l.2.1 x y l.2.2.1.2.2 o:=by unfold Rw.row;rw [h.bk]
theorem VB.ln {B : Bs} {l : Ln} {x y o : Value} {s : Nat} {w : World} (h : VB B l x y o s w) : LN B l (.agg (cN l.1 l.2.1 x y l.2.2.1.2.2 o)) w:=⟨x,y,o,rfl,h.l1,h.l2,h.l3⟩
theorem VB.cells {B : Bs} {l : Ln} {x y o : Value} {s : Nat} {w : World} (h : VB B l x y o s w) : w.cell? ⟨s,0,none⟩=some (.int .i64 l.1)∧w.cell? ⟨s,1,none⟩=some (.int .i64 l.2.1)∧w.cell? ⟨s,2,none⟩=some x∧w.cell? ⟨s,3,none⟩=some y∧w.cell? ⟨s,4,none⟩=some (.int .i64 l.2.2.1.2.2)∧w.cell? ⟨s,5,none⟩=some o:=by
 refine ⟨?_,?_,?_,?_,?_,?_⟩<;>simp [World.cell?,h.bk,cN]
theorem VB.free {B : Bs} {l : Ln} {x y o : Value} {s : Nat} {w : World} (h : VB B l x y o s w) (k : Nat) : w.frozen? ⟨s,k,none⟩=false:=by simp [World.frozen?,h.bk]
theorem VB.made {B : Bs} {l : Ln} {x y o : Value} {w : World} (h1 : LL B l.2.2.1.1 x w) (h2 : LL B l.2.2.1.2.1 y w) (h3 : HL B.lo l.2.2.2 o w) (hB : B.lo≤w.heap.size) : VB B l x y o w.heap.size (w.alloc (.cells (cN l.1 l.2.1 x y l.2.2.1.2.2 o) 74)) :=
 ⟨heap_alloc_new w _,hB,Is.stays eL 98 h1 (below1 _ _),Is.stays eL 98 h2 (below1 _ _),hl_stays h3 (below1 _ _)⟩
theorem VB.set {B : Bs} {l m : Ln} {x y o x' y' o' : Value} {s : Nat} {w : World} (k : Nat) (v : Value) (h : VB B l x y o s w) (hc : cN m.1 m.2.1 x' y' m.2.2.1.2.2 o'=(cN l.1 l.2.1 x y l.2.2.1.2.2 o).setIfInBounds k v) (h1 : LL B m.2.2.1.1 x' w) (h2 : LL B m.2.2.1.2.1 y' w) (h3 : HL B.lo m.2.2.2 o' w) : VB B m x' y' o' s (w.setCell ⟨s,k,none⟩ v) :=
 ⟨by rw [hc];exact setN k v h.bk,h.lo,Is.keep eL 98 h1 (keeps_setCell k v h.bk (by decide) h.lo),Is.keep eL 98 h2 (keeps_setCell k v h.bk (by decide) h.lo),hl_keep h3 (keeps_setCell k v h.bk (by decide) h.lo)⟩
theorem VB.put {B : Bs} {m : Ln} {x' y' o' : Value} {s : Nat} {w : World} {c : Array Value} (h : w.heap[s]?=some (.cells c 74 (0,0))) (lo : B.lo≤s) (h1 : LL B m.2.2.1.1 x' w) (h2 : LL B m.2.2.1.2.1 y' w) (h3 : HL B.lo m.2.2.2 o' w) : VB B m x' y' o' s (w.setRow s (cN m.1 m.2.1 x' y' m.2.2.1.2.2 o')) :=
 ⟨setRow_heap w s _ _ _ _ h,lo,Is.keep eL 98 h1 (keeps_setRow _ h (by decide) lo),Is.keep eL 98 h2 (keeps_setRow _ h (by decide) lo),hl_keep h3 (keeps_setRow _ h (by decide) lo)⟩
theorem VB.book {B : Bs} {lb lq : Int} {bk bk' : Bk} {od : List Hd} {x y o x' y' : Value} {n' : Int} {m : Nat} {w : World} (h : VB B (lb,lq,bk,od) x y o m w) (h1 : LL B bk'.1 x' w) (h2 : LL B bk'.2.1 y' w) (hn : bk'.2.2=n') :
  VB B (lb,lq,bk',od) x' y' o m (((w.setCell ⟨m,2,none⟩ x').setCell ⟨m,3,none⟩ y').setCell ⟨m,4,none⟩ (.int .i64 n')) ∧
  (∀ ts,74 ∉ ts→∀ A : Bs,A.lo≤m→Da.Keeps A ts w (((w.setCell ⟨m,2,none⟩ x').setCell ⟨m,3,none⟩ y').setCell ⟨m,4,none⟩ (.int .i64 n'))) ∧
  (∀ k,k≠m→(((w.setCell ⟨m,2,none⟩ x').setCell ⟨m,3,none⟩ y').setCell ⟨m,4,none⟩ (.int .i64 n')).heap[k]?=w.heap[k]?) ∧
  ∀ n,n≤m→Below n w (((w.setCell ⟨m,2,none⟩ x').setCell ⟨m,3,none⟩ y').setCell ⟨m,4,none⟩ (.int .i64 n')):=by
 obtain ⟨bu,se,nn⟩:=bk
 obtain ⟨bu',se',nn'⟩:=bk'
 simp only at h1 h2 hn
 subst hn
 have k1:=h.set (m:=(lb,lq,(bu',se,nn),od)) 2 x' rfl h1 h.l2 h.l3
 have kp1 : ∀ ts,74 ∉ ts→∀ A : Bs,A.lo≤m→Da.Keeps A ts w (w.setCell ⟨m,2,none⟩ x'):=fun ts ht A hA=>keeps_setCell 2 x' h.bk ht hA
 have k2:=k1.set (m:=(lb,lq,(bu',se',nn),od)) 3 y' rfl k1.l1 (Is.keep eL 98 h2 (kp1 _ (by decide) B h.lo)) k1.l3
 have kp2 : ∀ ts,74 ∉ ts→∀ A : Bs,A.lo≤m→Da.Keeps A ts w ((w.setCell ⟨m,2,none⟩ x').setCell ⟨m,3,none⟩ y'):=fun ts ht A hA=>(kp1 ts ht A hA).trans (keeps_setCell 3 y' k1.bk ht hA)
 have k3:=k2.set (m:=(lb,lq,(bu',se',nn'),od)) 4 (.int .i64 nn') rfl k2.l1 k2.l2 k2.l3
 refine ⟨k3,fun ts ht A hA=>(kp2 ts ht A hA).trans (keeps_setCell 4 _ k2.bk ht hA),fun k hk=>?_,fun n hn=>?_⟩
 ·rw [Below.heap_setCell _ ⟨m,4,none⟩ _ k hk,Below.heap_setCell _ ⟨m,3,none⟩ _ k hk,Below.heap_setCell _ ⟨m,2,none⟩ _ k hk]
 ·exact ((low_setCell 2 x' hn).trans (low_setCell 3 y' hn)).trans (low_setCell 4 _ hn)
end Go.Proofs.YthecinmekoaphaaGreat.La
