/- Package lane as it landed: all orders, Reserved, New. -/
import Derived.Test.YthecinmekoaphaaGreatQbZZ
import Derived.Test.YthecinmekoaphaaGreatQbBN
set_option linter.unusedVariables false
set_option maxRecDepth 16000
set_option maxHeartbeats 32000000
namespace Go.Proofs.YthecinmekoaphaaGreat.La
open Go.RowKit
open Rw
open Da
open Le
open Bk
open Ac (Hd Pu HL pmay pmay_iff tot total giveE giveL takeE takeL)
theorem ordsO_any (B : Bs) (l : List Lv) (v : Value) (w : World) (h : LL B l v w) (hB : B.le w.heap.size) (hm : l.length≤1000000) (hf : (flat l).length≤1000000) :
  Calls Tryz.prog 33 #[v] w (Post (OwnO B w.heap.size (flat l)) w):=by
 rcases h.cases with ⟨rfl,a,c,rfl⟩ | ⟨hne,b,off,c,rfl,hat⟩
 ·clear h
  have hd : decide ((0 : Int)<0)=false:=by decide
  go_enter Tryz.func33,Tryz.ntmps33
  go_wp2
  go_loopw [3,9] (fun t i wr=>i=.int .i64 0∧Below w.heap.size w wr∧OwnO B w.heap.size (flat []) t wr) (fun _ i _=>0)
  case atStart=>exact ⟨rfl,below1 _ _,Own.made _ _ _ (Nat.le_refl _)⟩
  case round =>
   obtain ⟨rfl,hb,ho⟩:=hrel
   go_wp2
   go_ret
   exact ⟨_,rfl,hb,ho⟩
 ·have hbb : b<w.heap.size:=hat.1
  have HA:=lH hat
  have HF:=lH hf
  obtain ⟨n,hn⟩ : ∃ n,n=l.length:=⟨_,rfl⟩
  rw [← hn] at hm ⊢
  have HN:=lH hn
  clear h hat hn hne hf
  go_enter Tryz.func33,Tryz.ntmps33
  go_wp2
  go_loopw [3,9] (fun t i wr=>∃ k : Nat,k≤n∧i=.int .i64 k∧Below w.heap.size w wr∧OwnO B w.heap.size (flat (l.take k)) t wr) (fun _ i _=>n - (intOf i).toNat)
  case atStart=>exact ⟨0,Nat.zero_le _,rfl,below1 _ _,Own.made _ _ _ (Nat.le_refl _)⟩
  case round =>
   obtain ⟨k,hk,rfl,hb,hown⟩:=hrel
   have HO:=lH hown
   clear hown
   by_cases hlt : k<n
   ·have hlt2 : (k : Int)<n:=by omega
    have hkl : k<l.length:=by rw [← HN.out];exact hlt
    obtain ⟨x,q0,q1,hx⟩:=atL HA.out k hkl
    obtain ⟨c1,f1,r1,p1⟩:=bcell hb
    obtain ⟨⟨pr,os⟩,hlk⟩ : ∃ y,l[k]=y:=⟨_,rfl⟩
    have ht:=flat_take_snoc hkl
    have hle:=flat_take_le l (k+1)
    rw [hlk] at q0 hx ht
    simp only at q0 hx ht
    have HT:=lH ht
    have hs : (flat (l.take k)).length+os.length≤1000000:=by rw [ht,List.length_append] at hle;have:=HF.out;omega
    clear ht hle hlk
    obtain ⟨a2,c2,rfl⟩:=hx.len
    obtain ⟨V,hV⟩ : ∃ V,V=wr.alloc (.cells #[.int .i64 pr,.slice a2 os.length c2] 98):=⟨_,rfl⟩
    have hbV : Below wr.heap.size wr V:=hV ▸ below1 wr _
    have hsz:=hb.size
    have hzV : wr.heap.size<V.heap.size:=by rw [hV];simp
    have hbw:=nx hb hbV
    have HX:=lH (Is.stays eO 70 (Is.stays eO 70 hx hb) hbV)
    obtain ⟨v2,w2,hrun,hown2,_,hbl,_⟩:=Own.append elemO 64 typesO hB (by omega) (HO.out.stays hbV) HX.out (by omega)  (by omega)
    have HO3 : Hid (OwnO B w.heap.size (flat (l.take (k+1))) v2 w2):=lH (by rw [HT.out];exact hown2)
    have hb2:=hbl _ _ (Nat.le_refl _) hbw
    rw [hV] at hrun
    clear hown2 hbl hV
    go_wp2
    go_roundw
    case rel=>exact ⟨k+1,by omega,by go_num,hb2,HO3.out⟩
    case measure=>simp [intOf];omega
   ·obtain rfl : k=n:=by omega
    have e1 : l.take k=l:=by rw [HN.out,List.take_length]
    have ho:=HO.out
    rw [e1] at ho
    have HZ:=lH ho
    clear ho e1
    go_wp2
    go_ret
    exact ⟨_,rfl,hb,HZ.out⟩
theorem lords_any (B : Bs) (l : Ln) (v : Value) (w : World) (h : LN B l v w) (hB : B.le w.heap.size) (hs : Sm l) :
  Calls Tryz.prog 55 #[v] w (Post (OL B (allO l.2.2.1)) w):=by
 have HSm:=lH hs
 obtain ⟨lb,lq,⟨bu,se,nn⟩,od⟩:=l
 obtain ⟨a1,n1,c1,a2,n2,c2,a3,n3,c3,rfl,e1,e2,e3,hl1,hl2,hl3⟩:=h.open'
 simp only at e1 e2 e3 hl1 hl2 hl3
 obtain ⟨V,hV⟩ : ∃ V,V=w.alloc (.cells (cN lb lq (.slice a1 n1 c1) (.slice a2 n2 c2) nn (.slice a3 n3 c3)) 74):=⟨_,rfl⟩
 have hbV : Below w.heap.size w V:=hV ▸ below1 w _
 have hx0 : VB B (lb,lq,(bu,se,nn),od) (.slice a1 n1 c1) (.slice a2 n2 c2) (.slice a3 n3 c3) w.heap.size V:=by rw [hV];exact VB.made (l:=(lb,lq,(bu,se,nn),od)) hl1 hl2 hl3 hB.1
 have HX:=lH hx0
 have HB:=lH (show ∀ u,Below w.heap.size w u→B.le u.heap.size from fun u hu=>hB.mono hu.size)
 have hF : ∀ u,Below V.heap.size V u→u.cell? ⟨w.heap.size,2,none⟩=some (.slice a1 n1 c1)∧u.cell? ⟨w.heap.size,3,none⟩=some (.slice a2 n2 c2)∧w.heap.size<u.heap.size:=fun u hu=>by
  obtain ⟨_,_,r2,r3,_,_⟩:=(HX.out.stays hu).cells
  exact ⟨r2,r3,(HX.out.stays hu).lt⟩
 have HLs:=lH (show ∀ u,Below V.heap.size V u→LL B bu (.slice a1 n1 c1) u∧LL B se (.slice a2 n2 c2) u from fun u hu=>⟨(HX.out.stays hu).l1,(HX.out.stays hu).l2⟩)
 have HV:=lH hV
 clear h hl1 hl2 hl3 hx0 hB e1 e2 e3 hV hs
 simp only
 go_enter Tryz.func55,Tryz.ntmps55
 go_wp2
 rw [← HV.out]
 refine Rh.rb [0,1,2,3,5,6,7,8,4,9,10,11] ?_
 repeat (first | (refine Rh.Steps.sk ?_;simp only [Act.put,sA,sB,sC]) | (refine Rh.Steps.pu (v:=?_) ?_ ?_;rotate_left;(intro w_ hS_;have hk_:=hF w_ hS_;go_simp<;>with_reducible rfl);simp only [Act.put,sA,sB,sC]))
 refine Rh.Steps.forced (i:=4) (by kernel_rfl) ?_
 refine Rh.One.call (fun v u=>OwnO B V.heap.size (flat bu) v u) (fun v _ _ h k=>h.stays k) (f:=?_) (args:=?_) (by rfl) (by rfl) ?_ ?_ ?_
 rotate_left 2
 ·intro w_ hS_ hG_;go_simp<;>first | with_reducible rfl | (constructor<;>with_reducible rfl)
 ·intro w_ hS_ hG_;(go_at_call 33;refine (ordsO_any B bu _ w_ (HLs.out w_ hS_).1 (HB.out w_ (nx hbV hS_)) (Nat.le_trans HSm.out.m1 (by decide)) (Nat.le_trans HSm.out.m2 (by decide))).mono ?_;rintro e w' ⟨v,rfl,hb9,ho⟩;exact ⟨v,rfl,hb9,Own.lower ho hS_.size⟩)
 intro v1 u_ hv1
 simp only [Act.put,sA,sB,sC]
 refine Rh.Steps.forced (i:=9) (by kernel_rfl) ?_
 refine Rh.One.call (fun v u=>OwnO B V.heap.size (flat se) v u) (fun v _ _ h k=>h.stays k) (f:=?_) (args:=?_) (by rfl) (by rfl) ?_ ?_ ?_
 rotate_left 2
 ·intro w_ hS_ hG_;go_simp<;>first | with_reducible rfl | (constructor<;>with_reducible rfl)
 ·intro w_ hS_ hG_;(go_at_call 33;refine (ordsO_any B se _ w_ (HLs.out w_ hS_).2 (HB.out w_ (nx hbV hS_)) (Nat.le_trans HSm.out.m3 (by decide)) (Nat.le_trans HSm.out.m4 (by decide))).mono ?_;rintro e w' ⟨v,rfl,hb9,ho⟩;exact ⟨v,rfl,hb9,Own.lower ho hS_.size⟩)
 intro v2 u_ hv2
 simp only [Act.put,sA,sB,sC]
 refine Rh.Steps.forced (i:=10) (by kernel_rfl) ?_
 refine Rh.One.new (fun v u=>Below V.heap.size V u∧OL B (allO (bu,se,nn)) v u) (fun v _ _ h k=>⟨nx h.1 k,Is.stays eO 70 h.2 k⟩) (by rfl) (by rfl) ?_ ?_
 ·intro w_ hS_ hG_
  obtain ⟨v8,w8,hrun,hown8,_,hbl8,_⟩:=Own.append elemO 64 typesO (HB.out V hbV) hS_.size hG_.1.2 (hG_.2.is (by decide) (HB.out V hbV)) (by have:=HSm.out.m2;have:=HSm.out.m4;simp only at *;omega) (by omega)
  have hb8:=hbl8 _ _ (Nat.le_refl _) hS_
  refine ⟨v8,w8,?_,hb8,hb8,hown8.is (by decide) (HB.out V hbV)⟩
  go_simp
 intro v3 u3 hv3
 simp only [Act.put,sA,sB,sC]
 repeat (first | (refine Rh.Steps.sk ?_;simp only [Act.put,sA,sB,sC]) | (refine Rh.Steps.pu (v:=?_) ?_ ?_;rotate_left;(intro w_ hS_;have hk_:=hF w_ hS_;go_simp<;>with_reducible rfl);simp only [Act.put,sA,sB,sC]))
 refine Rh.Steps.nil (by kernel_rfl) ?_
 rintro w2 hb2 hg2
 have hbw2:=nx hbV hb2
 have HOl:=lH hg2.2
 clear hg2 hF hv3
 go_wp2
 go_ret
 exact ⟨_,rfl,hbw2,HOl.out⟩
theorem lords_is {B : Bs} {l : Ln} {v : Value} {w : World} {all : List Od} {m : Nat} (ha : allO l.2.2.1=all) (hm : all.length=m) (h : LN B l v w) (hB : B.le w.heap.size) (hs : Sm l) :
  Calls Tryz.prog 55 #[v] w fun e w'=>∃ a c,e=.returned (.slice a m c)∧Below w.heap.size w w'∧OL B all (.slice a m c) w':=by
 refine (lords_any B l v w h hB hs).mono ?_
 rintro e w' ⟨v,rfl,hb,ho⟩
 rw [ha] at ho
 obtain ⟨a,c,rfl⟩:=ho.len
 rw [hm] at ho ⊢
 exact ⟨a,c,rfl,hb,ho⟩
theorem lreserved_any (B : Bs) (l : Ln) (v : Value) (a : Int) (w : World) (h : LN B l v w) (hB : B.le w.heap.size) (hs : Sm l) :
  Calls Tryz.prog 20 #[v,.int .i64 a] w fun e w'=>e=.returned (.int .i64 (reserved l a))∧Below w.heap.size w w':=by
 have HSm:=lH hs
 obtain ⟨r,hr⟩ : ∃ r,rightN l=r:=⟨_,rfl⟩
 obtain ⟨N,hN⟩ : ∃ N,reserved l a=N:=⟨_,rfl⟩
 have HR:=lH hr
 have HN:=lH hN
 rw [hN]
 obtain ⟨lb,lq,⟨bu,se,nn⟩,od⟩:=l
 obtain ⟨a1,n1,c1,a2,n2,c2,a3,n3,c3,rfl,e1,e2,e3,hx0⟩:=ln_box h hB
 obtain ⟨V,hV⟩ : ∃ V,V=w.alloc (.cells (cN lb lq (.slice a1 n1 c1) (.slice a2 n2 c2) nn (.slice a3 n3 c3)) 28):=⟨_,rfl⟩
 have hbV : Below w.heap.size w V:=hV ▸ below1 w _
 rw [← hV] at hx0
 have HX:=lH hx0
 have HB:=lH (show ∀ u,Below w.heap.size w u→B.le u.heap.size from fun u hu=>hB.mono hu.size)
 have r0:=hx0.row
 simp only at r0
 rw [hV] at r0
 have HV:=lH hV
 clear h hx0 hB e1 e2 e3 hV hs hr hN
 go_enter Tryz.func20,Tryz.ntmps20
 go_wp2_with fail
 rw [← HV.out]
 refine (lright_is HR HX.out.ln (HB.out V hbV) HSm.out).mono ?_
 rintro e w1 ⟨rfl,hb1⟩
 have HX1:=lH (HX.out.stays hb1)
 clear r0
 have hbw1:=nx hbV hb1
 cases r
 ·have HZ : Hid (N=0):=lH (by rw [← HN.out];unfold reserved;rw [HR.out,if_neg (by decide)])
  go_wp2
  go_ret
  exact ⟨ret_int HZ.out.symm,hbw1⟩
 obtain ⟨all,hall⟩ : ∃ all,allO (bu,se,nn)=all:=⟨_,rfl⟩
 obtain ⟨m,hm⟩ : ∃ m,all.length=m:=⟨_,rfl⟩
 have HAll:=lH (And.intro hall hm)
 have HZ : Hid (N=rsv lb lq a all):=lH (by rw [← HN.out];unfold reserved;rw [HR.out,if_pos rfl];simp only;rw [hall])
 have hRt:=rightN_iff.1 HR.out
 have hok:=okO_of hRt.book
 simp only at hok
 rw [hall] at hok
 have hcnt : m≤40:=by
  have:=hRt.book.cnt
  unfold cntB at this
  rw [← hm,← hall]
  unfold allO
  rw [List.length_append]
  exact this
 have HOk:=lH hok
 have rr:=HX1.out.row
 simp only at rr
 have z1:=HX1.out.lt
 obtain ⟨M,hM⟩ : ∃ M,M=w1.alloc (.cells (cN lb lq (.slice a1 n1 c1) (.slice a2 n2 c2) nn (.slice a3 n3 c3)) 74):=⟨_,rfl⟩
 have hbM : Below w1.heap.size w1 M:=hM ▸ below1 w1 _
 have hbwM:=nx hbw1 hbM
 have HVB:=lH (show VB B (lb,lq,(bu,se,nn),od) (.slice a1 n1 c1) (.slice a2 n2 c2) (.slice a3 n3 c3) w1.heap.size M from by rw [hM];exact VB.made (l:=(lb,lq,(bu,se,nn),od)) HX1.out.l1 HX1.out.l2 HX1.out.l3 (HB.out w1 hbw1).1)
 have HM:=lH hM
 clear hall hm hRt hok hM
 go_upto_region 4 with fail
 rw [← HM.out]
 clear rr
 have rr:=HVB.out.row
 simp only at rr
 go_wp2_with fail
 refine (lords_is HAll.out.1 HAll.out.2 HVB.out.ln (HB.out M hbwM) HSm.out).mono ?_
 rintro e w2 ⟨a9,c9,rfl,hb2,hol⟩
 have hbw2:=nx hbwM hb2
 have HOl:=lH hol
 have HX2:=lH (HVB.out.stays hb2)
 clear rr z1 hol
 go_wp2
 go_loopw [6,8,17] (fun n _ i wr=>∃ k : Nat,k≤m∧i=.int .i64 k∧n=.int .i64 (rsv lb lq a (all.take k))∧Below w2.heap.size w2 wr) (fun _ _ i _=>m - (intOf i).toNat)
 case atStart=>exact ⟨0,Nat.zero_le _,rfl,rfl,Below.refl _ _⟩
 case round =>
  obtain ⟨k,hk,rfl,rfl,hb⟩:=hrel
  have hbw:=nx hbw2 hb
  obtain ⟨nk,hnk⟩ : ∃ nk,rsv lb lq a (all.take k)=nk:=⟨_,rfl⟩
  have hbd:=rsv_bd (b:=lb) (q:=lq) (a:=a) (l:=all.take k) fun o ho=>HOk.out o (List.mem_of_mem_take ho)
  have hlen:=List.length_take_le k all
  have hnkb : 0≤nk∧nk≤43980465111040:=by omega
  rw [hnk]
  have HNk:=lH hnk
  clear hnk hbd hlen
  have HXr:=lH (HX2.out.stays hb)
  by_cases hlt : k<m
  ·have hlt2 : (k : Int)<m:=by omega
   have hko : k<all.length:=by rw [HAll.out.2];exact hlt
   have hol:=Is.stays eO 70 HOl.out hb
   rw [← HAll.out.2] at hol
   rcases hol.cases with ⟨e,_⟩ | ⟨_,g,off,cc,e,hat⟩
   ·rw [e] at hko;cases hko
   simp only [Value.slice.injEq] at e
   obtain ⟨rfl,_,rfl⟩:=e
   obtain ⟨s0,s1,s2,s3,s4⟩:=at5 hat k hko
   have hbb:=hat.1
   have hst:=rsv_take (b:=lb) (q:=lq) (a:=a) hko
   rw [HNk.out] at hst
   have hoo:=HOk.out _ (List.getElem_mem hko)
   obtain ⟨⟨x1,x2,x3,x4,x5⟩,hx⟩ : ∃ x,all[k]'hko=x:=⟨_,rfl⟩
   rw [hx] at s0 s1 s2 s3 s4 hst hoo
   unfold okO at hoo
   simp only at s0 s1 s2 s3 s4 hst hoo
   have HSt:=lH hst
   have rr:=HXr.out.row
   simp only at rr
   have zr : w1.heap.size<wr.heap.size:=HXr.out.lt
   have hnd:=ndN_bd (s:=x3) hoo.1 hoo.2.1 hoo.2.2.1 hoo.2.2.2
   obtain ⟨mm,hmm⟩ : ∃ mm,ndN x3 x4 x5=mm:=⟨_,rfl⟩
   rw [hmm] at hnd
   obtain ⟨ma,hma⟩ : ∃ ma,ndA lb lq x3=ma:=⟨_,rfl⟩
   have HMM:=lH (show ndN x3 x4 x5=mm∧ndA lb lq x3=ma from ⟨hmm,hma⟩)
   obtain ⟨M,hM⟩ : ∃ M,M=wr.alloc (.cells #[.int .i64 x1,.int .i64 x2,.int .i64 x3,.int .i64 x4,.int .i64 x5] 70):=⟨_,rfl⟩
   have hbM : Below wr.heap.size wr M:=hM ▸ below1 wr _
   have HM:=lH hM
   have hor : M.heap[wr.heap.size]?=some (.cells #[.int .i64 x1,.int .i64 x2,.int .i64 x3,.int .i64 x4,.int .i64 x5] 70 (0,0)):=by rw [hM];exact heap_alloc_new wr _
   clear hst hx hat hol hmm hma hM
   go_wp2_with fail
   rw [← HM.out]
   refine (lpurse_any lb lq nn _ _ _ _ _ _ _ _ _ x2 x3 M).mono ?_
   rintro e w3 ⟨rfl,hb3⟩
   rw [HMM.out.2]
   rw [HMM.out.1,HMM.out.2] at HSt
   have hb9:=nx hb (nx hbM hb3)
   have hor3:=(hb3.block _ (Array.getElem?_eq_some_iff.1 hor).1).trans hor
   have z3:=(Array.getElem?_eq_some_iff.1 hor3).1
   have o2 : w3.cell? ⟨wr.heap.size,2,none⟩=some (.int .i64 x3):=by simp [World.cell?,hor3]
   have o3 : w3.cell? ⟨wr.heap.size,3,none⟩=some (.int .i64 x4):=by simp [World.cell?,hor3]
   have o4 : w3.cell? ⟨wr.heap.size,4,none⟩=some (.int .i64 x5):=by simp [World.cell?,hor3]
   clear hor hor3
   by_cases he : ma=a
   ·have hd : (ma==a)=true:=by simpa using he
    have HS1 : Hid (rsv lb lq a (all.take (k+1))=nk+mm):=lH (by rw [HSt.out,if_pos he])
    clear he
    go_wp2_with fail
    refine (need_any x3 x4 x5 w3 ⟨hoo.1,hoo.2.1⟩ ⟨hoo.2.2.1,hoo.2.2.2⟩).mono ?_
    rintro e w4 ⟨rfl,rfl⟩
    rw [HMM.out.1]
    go_wp2
    go_roundw
    case rel=>exact ⟨k+1,by omega,by go_num,by rw [HS1.out],hb9⟩
    case measure=>simp [intOf];omega
   ·have hd : (ma==a)=false:=by simpa using he
    have HS1 : Hid (rsv lb lq a (all.take (k+1))=nk):=lH (by rw [HSt.out,if_neg he,Int.add_zero])
    clear he
    go_wp2
    go_roundw
    case rel=>exact ⟨k+1,by omega,by go_num,by rw [HS1.out],hb9⟩
    case measure=>simp [intOf];omega
  ·obtain rfl : k=m:=by omega
   have HS1 : Hid (N=nk):=lH (by rw [HZ.out,← HNk.out,← HAll.out.2,List.take_length])
   clear hlt
   go_wp2
   go_ret
   exact ⟨ret_int HS1.out.symm,hbw⟩
def PostNw (b q : Int) (w : World) (e : Ending) (w' : World) : Prop:=∃ v,e=.returned (.tuple #[v,.int .i64 (newE b q)])∧Below w.heap.size w w'∧∀ B : Bs,B.le w.heap.size→LN B (newN b q) v w'
theorem right_new (b q : Int) : rightN (b,q,([],[],1),[])=pairOk b q:=by
 cases h : pairOk b q
 ·unfold rightN;simp only;rw [h];rfl
 ·exact rightN_iff.2 ⟨h,Bk.right_new,Ac.Right.nil,rfl⟩
theorem ln_nil (B : Bs) (b q n : Int) (w : World) : LN B (b,q,([],[],n),[]) (.agg (nilN b q n)) w:=⟨_,_,_,rfl,Is.nil _ _ _ _,Is.nil _ _ _ _,Sl.SL.nil _ _ _ _⟩
theorem sm_nil (b q n : Int) : Sm (b,q,([],[],n),[]):=⟨by simp,by simp [flat],by simp,by simp [flat],by simp⟩
theorem lnew_any (b q : Int) (w : World) : Calls Tryz.prog 7 #[.int .i64 b,.int .i64 q] w (PostNw b q w):=by
 obtain ⟨r,hr⟩ : ∃ r,pairOk b q=r:=⟨_,rfl⟩
 have HR : Hid (rightN (b,q,([],[],1),[])=r):=lH ((right_new b q).trans hr)
 have HP:=lH hr
 clear hr
 go_enter Tryz.func7,Tryz.ntmps7
 go_wp2_with fail
 refine (Bk.new_any _).mono ?_
 rintro e w1 ⟨rfl,hb1⟩
 have hz:=hb1.size
 simp only [World.size_alloc] at hz
 have hg1 : w1.heap[w.heap.size]?=some (.cells (nilN 0 0 0) 28 (0,0)):=(hb1.block _ (by simp)).trans (heap_alloc_new w _)
 have hbw1:=nx (below1 w _) hb1
 obtain ⟨M,hM⟩ : ∃ M,M=w1.alloc (.cells (nilN b q 1) 28):=⟨_,rfl⟩
 have hbM : Below w.heap.size w M:=nx hbw1 (hM ▸ below1 w1 _)
 have hgM : M.heap[w.heap.size]?=some (.cells (nilN 0 0 0) 28 (0,0)):=by rw [hM];exact ((below1 w1 _).block _ (by omega)).trans hg1
 have hlM : M.heap[w1.heap.size]?=some (.cells (nilN b q 1) 28 (0,0)):=by rw [hM];exact heap_alloc_new w1 _
 have HM:=lH hM
 have HbM:=lH hbM
 have HgM:=lH hgM
 have HlM:=lH hlM
 have hsz : w.heap.size<w1.heap.size:=by omega
 clear hz hb1 hg1 hbw1 hM hbM hgM hlM
 go_wp2_with fail
 rw [← HM.out]
 refine (lright_is HR (ln_nil ⟨M.heap.size,fun _=>False⟩ b q 1 M) ⟨Nat.le_refl _,fun _ h=>h.elim⟩ (sm_nil b q 1)).mono ?_
 rintro e w2 ⟨rfl,hb2⟩
 have hbw2:=nx HbM.out hb2
 have hg2:=(hb2.block _ (Array.getElem?_eq_some_iff.1 HgM.out).1).trans HgM.out
 have hl2:=(hb2.block _ (Array.getElem?_eq_some_iff.1 HlM.out).1).trans HlM.out
 have p1 : plain 6 w2 w.heap.size=true:=by simp [Rw.plain,hg2]
 have z2:=(Array.getElem?_eq_some_iff.1 hg2).1
 have zl:=(Array.getElem?_eq_some_iff.1 hl2).1
 have rl : row w2 w1.heap.size=nilN b q 1:=by unfold Rw.row;rw [hl2]
 have HB2:=lH hbw2
 clear hbw2 hg2 hl2 hb2
 cases r
 ·obtain ⟨h1,h2⟩:=newN_no HP.out
  have HE:=lH (And.intro h1 h2)
  clear h1 h2
  go_wp2
  refine bodyPost_ret (v:=.tuple #[.agg (nilN 0 0 0),.int .i64 1]) (ret_N2 Tryz.results7 _ _ rfl ?c1) rfl ⟨_,by rw [HE.out.2],below_setRow HB2.out (Nat.le_refl _) _,fun B hB=>by rw [HE.out.1];exact ln_nil _ _ _ _ _⟩
  case c1=>exact row_set _ p1
 ·obtain ⟨h1,h2⟩:=newN_ok HP.out
  have HE:=lH (And.intro h1 h2)
  clear h1 h2
  go_wp2
  refine bodyPost_ret (v:=.tuple #[.agg (nilN b q 1),.int .i64 0]) (ret_N2 Tryz.results7 _ _ rfl ?c1) rfl ⟨_,by rw [HE.out.2],below_setRow HB2.out (Nat.le_refl _) _,fun B hB=>by rw [HE.out.1];exact ln_nil _ _ _ _ _⟩
  case c1=>exact row_set _ p1
end Go.Proofs.YthecinmekoaphaaGreat.La
namespace Go.Proofs.YthecinmekoaphaaGreat.La
open Go.RowKit
open Rw
open Da
open Le
open Bk
open Ro
open Ac (Hd Pu HL pmay pmay_iff tot total giveE giveL takeE takeL)
def notOf (ow : Int) (h : Hd) : Bool:=h.1 != ow
def ixH (ow : Int) : List Hd→Nat→Int
 | [],_=>-1
 | y :: r,j=>if y.1=ow then (j : Int) else ixH ow r (j+1)
theorem ixH_drop {ow : Int} {hs : List Hd} {j : Nat} (h : j<hs.length) : ixH ow (hs.drop j) j=if hs[j].1=ow then (j : Int) else ixH ow (hs.drop (j+1)) (j+1):=by
 rw [hdrop h];rfl
theorem ixH_spec (ow : Int) : ∀ (hs : List Hd) (j : Nat),(ixH ow hs j=-1∧hs.filter (notOf ow)=hs)∨∃ k,∃ h : k<hs.length,ixH ow hs j=((j+k : Nat) : Int)∧hs[k].1=ow∧(hs.take k).filter (notOf ow)=hs.take k
 | [],j=>.inl ⟨rfl,rfl⟩
 | y :: r,j=>by
  by_cases e : y.1=ow
  ·exact .inr ⟨0,by simp,by simp [ixH,e],by simpa using e,by simp⟩
  ·have hf : notOf ow y=true:=by simp [notOf,e]
   rcases ixH_spec ow r (j+1) with ⟨h1,h2⟩ | ⟨k,hk,h1,h2,h3⟩
   ·exact .inl ⟨by simp only [ixH,e,if_false];exact h1,by rw [List.filter_cons,hf,h2];rfl⟩
   ·refine .inr ⟨k+1,by simp;omega,?_,by simpa using h2,?_⟩
    ·simp only [ixH,e,if_false,h1];congr 1;omega
    ·rw [List.take_succ_cons,List.filter_cons,hf,h3];rfl
theorem rowH_at {g cap : Nat} {hs : List Hd} {u : World} (h : RowH g cap hs u) {i : Nat} {y : Hd} (hy : hs[i]?=some y) : u.cell? ⟨g,i*3,none⟩=some (.int .i64 y.1)∧u.cell? ⟨g,i*3+1,none⟩=some (.int .i64 y.2.1)∧u.cell? ⟨g,i*3+2,none⟩=some (.int .i64 y.2.2)∧u.frozen? ⟨g,i*3,none⟩=false∧u.frozen? ⟨g,i*3+1,none⟩=false∧u.frozen? ⟨g,i*3+2,none⟩=false :=
 ⟨h.cell hy (j:=0) rfl,h.cell hy (j:=1) rfl,h.cell hy (j:=2) rfl,h.frozen _,h.frozen _,h.frozen _⟩
theorem rowH_set {g cap : Nat} {xs : List Hd} {u : World} (h : RowH g cap xs u) {i : Nat} {x : Hd} (y : Hd) (hx : xs[i]?=some x) : RowH g cap (xs.set i y) (((u.setCell ⟨g,i*3,none⟩ (.int .i64 y.1)).setCell ⟨g,i*3+1,none⟩ (.int .i64 y.2.1)).setCell ⟨g,i*3+2,none⟩ (.int .i64 y.2.2))∧u.grownBy (((u.setCell ⟨g,i*3,none⟩ (.int .i64 y.1)).setCell ⟨g,i*3+1,none⟩ (.int .i64 y.2.1)).setCell ⟨g,i*3+2,none⟩ (.int .i64 y.2.2)) (some g):=by
 have hi : i<xs.length:=(List.getElem?_eq_some_iff.1 hx).1
 have h1:=h.setCell (j:=0) (y:=(y.1,x.2)) (u:=.int .i64 y.1) hx (by decide) rfl
 have h2:=h1.setCell (j:=1) (y:=(y.1,y.2.1,x.2.2)) (u:=.int .i64 y.2.1) (List.getElem?_set_self hi) (by decide) rfl
 rw [List.set_set] at h2
 have h3:=h2.setCell (j:=2) (y:=y) (u:=.int .i64 y.2.2) (List.getElem?_set_self hi) (by decide) rfl
 rw [List.set_set] at h3
 exact ⟨h3,grown_trans (grown_trans (setCell_grown u g (i*3) (.int .i64 y.1)) (setCell_grown _ g (i*3+1) (.int .i64 y.2.1))) (setCell_grown _ g (i*3+2) (.int .i64 y.2.2))⟩
theorem isOf_any (a b c ow : Int) (p : Nat) (w : World) (hp : p<w.heap.size) (hc : w.cell? ⟨p,0,none⟩=some (.int .i64 ow)) : Calls Tryz.prog 47 #[.agg #[.int .i64 a,.int .i64 b,.int .i64 c],.pointer (some ⟨p,0,none⟩)] w fun x w'=>x=.returned (.bool (a==ow))∧Below w.heap.size w w':=by
 have hne : p≠w.heap.size:=by omega
 go_enter Tryz.func47,Tryz.ntmps47
 go_wp2
 go_ret
 exact ⟨rfl,below1 _ _⟩
theorem isOf_is {a b c ow : Int} {p : Nat} {w : World} {r : Bool} (hr : Hid ((a==ow)=r)) (hp : p<w.heap.size) (hc : w.cell? ⟨p,0,none⟩=some (.int .i64 ow)) : Calls Tryz.prog 47 #[.agg #[.int .i64 a,.int .i64 b,.int .i64 c],.pointer (some ⟨p,0,none⟩)] w fun x w'=>x=.returned (.bool r)∧Below w.heap.size w w':=by
 rw [← hr.out];exact isOf_any a b c ow p w hp hc
theorem indexH_any (g n cap : Nat) (hs : List Hd) (ow : Int) (p : Nat) (w : World) (hrow : RowH g cap hs w) (hl : n=hs.length) (hm : n≤1000000) (hp : p<w.heap.size) (hc : w.cell? ⟨p,0,none⟩=some (.int .i64 ow)) :
  Calls Tryz.prog 84 #[.slice (some ⟨g,0,none⟩) n cap,.func (.func 47) #[] #[.pointer (some ⟨p,0,none⟩)]] w fun e w'=>e=.returned (.int .i64 (ixH ow hs 0))∧Below w.heap.size w w':=by
 obtain ⟨r,hr⟩ : ∃ r,ixH ow (hs.drop 0) 0=r:=⟨_,rfl⟩
 have HG : Hid (ixH ow hs 0=r):=lH hr
 have HR:=lH hr
 have HW:=lH hrow
 have HL:=lH hl
 have HC:=lH (show ∀ u,Below w.heap.size w u→p<u.heap.size∧u.cell? ⟨p,0,none⟩=some (.int .i64 ow) from fun u hu=>⟨Nat.lt_of_lt_of_le hp hu.size,(hu.cell (p:=⟨p,0,none⟩) hp).trans hc⟩)
 clear hrow hr hl hp hc
 go_enter Tryz.func84,Tryz.ntmps84
 go_wp2
 go_loopw [5,8] (fun _ i wr=>∃ j : Nat,j≤n∧i=.int .i64 j∧Below w.heap.size w wr∧ixH ow (hs.drop j) j=r) (fun _ i _=>n - (intOf i).toNat)
 case atStart=>exact ⟨0,Nat.zero_le _,rfl,Below.refl _ _,HR.out⟩
 case round =>
  obtain ⟨j,hj,rfl,hb,hrj⟩:=hrel
  have HT:=lH hrj
  clear hrj
  by_cases hjm : j<n
  ·have hjm2 : (j : Int)<n:=by omega
   have hjo : j<hs.length:=by rw [← HL.out];exact hjm
   have hrw:=HW.out.stays hb
   have hgz:=hrw.lt
   have hcons:=ixH_drop (ow:=ow) hjo
   obtain ⟨⟨ya,yb,yc⟩,hy⟩ : ∃ y,hs[j]'hjo=y:=⟨_,rfl⟩
   rw [hy] at hcons
   simp only at hcons
   obtain ⟨q0,q1,q2,_,_,_⟩:=rowH_at hrw (show hs[j]?=some (ya,yb,yc) by rw [← hy];exact List.getElem?_eq_getElem hjo)
   simp only at q0 q1 q2
   rw [HT.out] at hcons
   have HCr:=lH (HC.out wr hb)
   clear hrw hy
   by_cases h0 : ya=ow
   ·have hd : Hid ((ya==ow)=true):=lH (by simpa using h0)
    have HZ : Hid (r=(j : Int)):=lH (by rw [hcons,if_pos h0])
    clear hcons h0
    go_wp2_with fail
    refine (isOf_is hd HCr.out.1 HCr.out.2).mono ?_
    rintro e w' ⟨rfl,hb1⟩
    go_wp2
    go_ret
    exact ⟨ret_int (by rw [HG.out,HZ.out]),nx hb hb1⟩
   ·have hd : Hid ((ya==ow)=false):=lH (by simpa using h0)
    have HZ : Hid (ixH ow (hs.drop (j+1)) (j+1)=r):=lH (by rw [hcons,if_neg h0])
    clear hcons h0
    go_wp2_with fail
    refine (isOf_is hd HCr.out.1 HCr.out.2).mono ?_
    rintro e w' ⟨rfl,hb1⟩
    go_wp2
    go_roundw
    case rel=>exact ⟨j+1,by omega,by go_num,nx hb hb1,HZ.out⟩
    case measure=>simp [intOf];omega
  ·obtain rfl : j=n:=by omega
   have HZ : Hid (r=-1):=lH (by rw [← HT.out,HL.out,List.drop_length];rfl)
   clear hjm
   go_wp2
   go_ret
   exact ⟨ret_int (by rw [HG.out,HZ.out]),hb⟩
theorem indexH_is {g n cap : Nat} {hs : List Hd} {ow : Int} {p : Nat} {w : World} {r : Int} (hr : Hid (ixH ow hs 0=r)) (hrow : RowH g cap hs w) (hl : n=hs.length) (hm : n≤1000000) (hp : p<w.heap.size) (hc : w.cell? ⟨p,0,none⟩=some (.int .i64 ow)) :
  Calls Tryz.prog 84 #[.slice (some ⟨g,0,none⟩) n cap,.func (.func 47) #[] #[.pointer (some ⟨p,0,none⟩)]] w fun e w'=>e=.returned (.int .i64 r)∧Below w.heap.size w w':=by
 rw [← hr.out];exact indexH_any g n cap hs ow p w hrow hl hm hp hc
def DfG {α : Type} (q : α→Bool) (hs xs : List α) (i j : Nat) : Prop:=xs.length=hs.length∧xs.take i=(hs.take j).filter q∧xs.drop j=hs.drop j
theorem DfG.at {α : Type} {q : α→Bool} {hs xs : List α} {i j : Nat} (h : DfG q hs xs i j) (_hj : j<hs.length) : xs[j]?=hs[j]?:=by
 have h1 : (xs.drop j)[0]?=(hs.drop j)[0]?:=by rw [h.2.2]
 rw [List.getElem?_drop,List.getElem?_drop] at h1
 simpa using h1
theorem DfG.skip {α : Type} {q : α→Bool} {hs xs : List α} {i j : Nat} (h : DfG q hs xs i j) (hj : j<hs.length) (he : q hs[j]=false) : DfG q hs xs i (j+1):=by
 refine ⟨h.1,?_,?_⟩
 ·rw [h.2.1,Da.take_snoc hj,List.filter_append,List.filter_cons,he];simp
 ·rw [← List.drop_drop,h.2.2,List.drop_drop]
theorem DfG.keep {α : Type} {q : α→Bool} {hs xs : List α} {i j : Nat} (h : DfG q hs xs i j) (hij : i<j) (hj : j<hs.length) (he : q hs[j]=true) : DfG q hs (xs.set i hs[j]) (i+1) (j+1):=by
 have hix : i<xs.length:=by rw [h.1];omega
 refine ⟨by rw [List.length_set];exact h.1,?_,?_⟩
 ·rw [Da.take_snoc (by rw [List.length_set];exact hix),List.take_set_of_le (Nat.le_refl i),h.2.1,Da.take_snoc hj,List.filter_append,List.filter_cons,he,List.getElem_set_self];simp
 ·rw [List.drop_set_of_lt (by omega),← List.drop_drop,h.2.2,List.drop_drop]
def DhP (g cap : Nat) (ow : Int) (hs : List Hd) (w : World) (e : Ending) (w' : World) : Prop:=e=.returned (.slice (some ⟨g,0,none⟩) (hs.filter (notOf ow)).length cap)∧RowH g cap (hs.filter (notOf ow)) w'∧w.grownBy w' (some g)
theorem zeroH (w : World) : (zeroValue 55).run Tryz.prog w=.ok (.agg #[.int .i64 0,.int .i64 0,.int .i64 0]) w:=by kernel_rfl
theorem deleteH_any (g n cap : Nat) (hs : List Hd) (ow : Int) (p : Nat) (w : World) (hrow : RowH g cap hs w) (hl : n=hs.length) (hm : n≤1000000) (hcap : Hid (cap≤maxLen)) (hp : p<w.heap.size) (hpg : p≠g) (hc : w.cell? ⟨p,0,none⟩=some (.int .i64 ow)) :
  Calls Tryz.prog 46 #[.slice (some ⟨g,0,none⟩) n cap,.func (.func 47) #[] #[.pointer (some ⟨p,0,none⟩)]] w (DhP g cap ow hs w):=by
 have hle : n≤cap:=by rw [hl];exact hrow.le
 obtain ⟨q,hq⟩ : ∃ q,ixH ow hs 0=q:=⟨_,rfl⟩
 have HQ:=lH hq
 have HC:=lH (show ∀ u,w.grownBy u (some g)→p<u.heap.size∧u.cell? ⟨p,0,none⟩=some (.int .i64 ow) from fun u hu=>⟨Nat.lt_of_lt_of_le hp hu.size,(grown_cell hu hp (fun e=>hpg (Option.some.inj e))).trans hc⟩)
 rcases ixH_spec ow hs 0 with ⟨h1,h2⟩ | ⟨k,hk,h1,h2,h3⟩
 ·rw [hq] at h1
  subst h1
  have HZ:=lH (show ∀ u,Below w.heap.size w u→DhP g cap ow hs w (.returned (.slice (some ⟨g,0,none⟩) n cap)) u from fun u hu=>⟨by rw [h2,← hl],by rw [h2];exact hrow.stays hu,grown_below _ hu⟩)
  have hcall:=lH (indexH_is HQ hrow hl hm hp hc)
  clear hq h2 hrow hl hc
  go_enter Tryz.func46,Tryz.ntmps46
  go_wp2_with fail
  refine hcall.out.mono ?_
  rintro e w' ⟨rfl,hb1⟩
  go_wp2
  go_ret
  exact HZ.out _ hb1
 ·rw [hq,Nat.zero_add] at h1
  subst h1
  have hst : DfG (notOf ow) hs hs k (k+1):=⟨rfl,by rw [Da.take_snoc hk,List.filter_append,h3,List.filter_cons];simp [notOf,h2],rfl⟩
  have HSt:=lH hst
  have HR:=lH hrow
  have HL:=lH hl
  have hcall:=lH (indexH_is HQ hrow hl hm hp hc)
  have hkn : k<n:=by omega
  clear hst hrow hl h2 h3 hq hc
  go_enter Tryz.func46,Tryz.ntmps46
  go_wp2_with fail
  refine hcall.out.mono ?_
  rintro e w' ⟨rfl,hb1⟩
  have hd : ((k : Int)==-1)=false:=by simp
  have HR1:=lH (HR.out.stays hb1)
  have HGr:=lH (grown_below (some g) hb1)
  go_wp2
  go_loopw [5,6,7] (fun s5 s6 _ wr=>∃ (i j : Nat) (xs : List Hd),s5=.int .i64 i∧s6=.int .i64 j∧i<j∧j≤n∧RowH g cap xs wr∧DfG (notOf ow) hs xs i j∧w.grownBy wr (some g)) (fun _ s6 _ _=>n - (intOf s6).toNat)
  case atStart=>exact ⟨k,k+1,hs,rfl,by go_num,by omega,by omega,HR1.out,HSt.out,HGr.out⟩
  case round =>
   obtain ⟨i,j,xs,rfl,rfl,hij,hjn,hrw,hinv,hgr⟩:=hrel
   have HI:=lH hinv
   have HW:=lH hrw
   have HG:=lH hgr
   have hgz:=hrw.lt
   clear hinv hrw hgr
   by_cases hjm : j<n
   ·have hjm2 : (j : Int)<n:=by omega
    have hin2 : (i : Int)<n:=by omega
    have hjo : j<hs.length:=by rw [← HL.out];exact hjm
    have hat:=HI.out.at hjo
    obtain ⟨⟨ya,yb,yc⟩,hy⟩ : ∃ y,hs[j]'hjo=y:=⟨_,rfl⟩
    have hxj : xs[j]?=some (ya,yb,yc):=by rw [hat,← hy];exact List.getElem?_eq_getElem hjo
    obtain ⟨q0,q1,q2,_,_,_⟩:=rowH_at HW.out hxj
    simp only at q0 q1 q2
    have HY:=lH hy
    clear hat hy hxj
    have hbx:=below1 wr (.cells #[.int .i64 ya,.int .i64 yb,.int .i64 yc] 55)
    have HCr:=lH (HC.out _ (grown_stays _ _ _ _ HG.out hbx))
    by_cases h0 : ya=ow
    ·have hd0 : Hid ((ya==ow)=true):=lH (by simpa using h0)
     have HZ:=lH (HI.out.skip hjo (by rw [HY.out];simp [notOf,h0]))
     clear h0
     go_wp2_with fail
     refine (isOf_is hd0 HCr.out.1 HCr.out.2).mono ?_
     rintro e w2 ⟨rfl,hb2⟩
     have hb3:=nx hbx hb2
     go_wp2
     go_roundw
     case rel=>exact ⟨i,j+1,xs,rfl,by go_num,by omega,by omega,HW.out.stays hb3,HZ.out,grown_stays _ _ _ _ HG.out hb3⟩
     case measure=>simp [intOf];omega
    ·have hd0 : Hid ((ya==ow)=false):=lH (by simpa using h0)
     have HZ:=lH (HI.out.keep hij hjo (by rw [HY.out];simp [notOf,h0]))
     rw [HY.out] at HZ
     clear h0
     go_wp2_with fail
     refine (isOf_is hd0 HCr.out.1 HCr.out.2).mono ?_
     rintro e w2 ⟨rfl,hb2⟩
     have hb3:=nx hbx hb2
     have hrw2:=HW.out.stays hb3
     have hix : i<xs.length:=by rw [HI.out.1];omega
     obtain ⟨c0,c1,c2,f0,f1,f2⟩:=rowH_at hrw2 (List.getElem?_eq_getElem hix)
     obtain ⟨hr4,hg4⟩:=rowH_set hrw2 (ya,yb,yc) (List.getElem?_eq_getElem hix)
     simp only at hr4 hg4
     have HR4:=lH hr4
     have hg5:=grown_trans (grown_stays _ _ _ _ HG.out hb3) hg4
     have HG5:=lH hg5
     have hbl:=(hb2.block wr.heap.size (by simp)).trans (heap_alloc_new wr (.cells #[.int .i64 ya,.int .i64 yb,.int .i64 yc] 55))
     have b0 : w2.cell? ⟨wr.heap.size,0,none⟩=some (.int .i64 ya):=by simp [World.cell?,hbl]
     have b1 : w2.cell? ⟨wr.heap.size,1,none⟩=some (.int .i64 yb):=by simp [World.cell?,hbl]
     have b2 : w2.cell? ⟨wr.heap.size,2,none⟩=some (.int .i64 yc):=by simp [World.cell?,hbl]
     clear hr4 hg4 hg5 hrw2 hbl
     go_wp2
     go_roundw
     case rel=>exact ⟨i+1,j+1,_,by go_num,by go_num,by omega,by omega,HR4.out,HZ.out,HG5.out⟩
     case measure=>simp [intOf];omega
   ·obtain rfl : j=n:=by omega
    have hfil : xs.take i=hs.filter (notOf ow):=by have:=HI.out.2.1;rw [HL.out,List.take_length] at this;exact this
    have hil : (hs.filter (notOf ow)).length=i:=by rw [← hfil,List.length_take,HI.out.1,← HL.out];omega
    have hcm:=hcap.out
    unfold maxLen at hcm
    obtain ⟨w5,hrun,hr5,hg5⟩:=Row.clear elemH 0 zeroH (x0:=((0,0,0) : Hd)) rfl (HW.out.take i) (o:=i) (m:=j - i) (c:=cap - i) (by rw [List.length_take];omega) (by omega) (by omega)
    simp only [show fH.k=3 from rfl] at hrun
    have HZ : Hid (DhP g cap ow hs w (.returned (.slice (some ⟨g,0,none⟩) i cap)) w5):=lH ⟨by rw [hil],by rw [← hfil];exact hr5,grown_trans HG.out hg5⟩
    have k1 : ¬ cap=i:=by omega
    have k2 : (i : Int)≤j:=by omega
    have k3 : (i : Int)≤cap:=by omega
    have k4 : (j : Int)≤cap:=by omega
    clear hfil hil hr5 hg5
    go_wp2
    go_ret
    exact HZ.out
end Go.Proofs.YthecinmekoaphaaGreat.La
