/- The document's own of layer 10: settle. -/
import Derived.Test.YthecinmekoaphaaGreatQbZZ
import Derived.Test.YthecinmekoaphaaGreatQbAT
import Derived.Test.YthecinmekoaphaaGreatQbAZ
set_option linter.unusedVariables false
set_option maxRecDepth 16000
set_option maxHeartbeats 32000000
namespace Go.Proofs.YthecinmekoaphaaGreat.La
open Go.RowKit
open Rw
open Da
open Le
open Bk
open Ac (Hd Pu HL pmay pmay_iff tot total giveE giveL takeE takeL)
def PostS (B : Bs) (l : Ln) (S : List Hd × Int × Int × Int) (w : World) (e : Ending) (w' : World) : Prop:=∃ v,e=.returned (.tuple #[v,.int .i64 S.2.1,.int .i64 S.2.2.1,.int .i64 S.2.2.2])∧Below w.heap.size w w'∧LN B (l.1,l.2.1,l.2.2.1,S.1) v w'
def okF (f : Fl) : Prop:=0≤f.2.2.1∧f.2.2.1≤1048576∧0≤f.2.2.2.1∧f.2.2.2.1≤1048576
theorem pay_bd {s : Int} {f : Fl} (h : okF f) : 0≤payF s f∧payF s f≤1099511627776∧0≤getF s f∧getF s f≤1099511627776:=by
 obtain ⟨h1,h2,h3,h4⟩:=h
 have:=mul_bd h1 h2 h3 h4
 unfold payF getF
 split<;>omega
theorem stl_drop {b q s : Int} {fs : List Fl} {k : Nat} (h : k<fs.length) (ow : List Hd) (p g : Int) :
  stl b q s (fs.drop k) ow p g=if giveE ow (fs[k].2.1,astF b q s) (payF s fs[k])=0 then stl b q s (fs.drop (k+1)) (giveL ow (fs[k].2.1,astF b q s) (payF s fs[k])) (p+payF s fs[k]) (g+getF s fs[k]) else (ow,0,0,giveE ow (fs[k].2.1,astF b q s) (payF s fs[k])):=by
 rw [List.drop_eq_getElem_cons h,stl]
theorem give_len {l : List Hd} {p : Pu} {n : Int} (h : giveE l p n=0) : (giveL l p n).length≤1000:=by
 have:=Ac.right_512 (Ac.give_done h).1
 omega
structure StL (B : Bs) (l : Ln) (x y o : Value) (s : Nat) (fs : List Fl) (fv : Value) (w wr : World) : Prop where
 lb : LB B l x y o s wr
 g : wr.heap[s+1]?=some (.cells (nilN 0 0 0) 28 (0,0))
 fl : FL B fs fv wr
 bel : Below s w wr
theorem StL.stays {B : Bs} {l : Ln} {x y o : Value} {s : Nat} {fs : List Fl} {fv : Value} {w wr u : World} (h : StL B l x y o s fs fv w wr) (hb : Below wr.heap.size wr u) : StL B l x y o s fs fv w u :=
 ⟨h.lb.stays hb,(hb.block _ (Array.getElem?_eq_some_iff.1 h.g).1).trans h.g,Is.stays eFl 91 h.fl hb,h.bel.trans (hb.mono (Nat.le_of_lt h.lb.lt))⟩
theorem StL.set {B : Bs} {lb lq : Int} {bk : Bk} {od od' : List Hd} {x y o o' : Value} {s : Nat} {fs : List Fl} {fv : Value} {w wr : World} (h : StL B (lb,lq,bk,od) x y o s fs fv w wr) (ho : HL B.lo od' o' wr) : StL B (lb,lq,bk,od') x y o' s fs fv w (wr.setCell ⟨s,5,none⟩ o') :=
 ⟨h.lb.set (m:=(lb,lq,bk,od')) 5 o' rfl h.lb.l1 h.lb.l2 ho,(Below.heap_setCell wr ⟨s,5,none⟩ o' (s+1) (by show s+1≠s;omega)).trans h.g,Is.keep eFl 91 h.fl (keeps_setCell 5 o' h.lb.bk (by decide) h.lb.lo),h.bel.trans (low_setCell 5 o' (Nat.le_refl _))⟩
theorem rSettle_any (B : Bs) (l : Ln) (v : Value) (sd : Int) (fs : List Fl) (fv : Value) (w : World) (h : LN B l v w) (hB : B.le w.heap.size) (hf : FL B fs fv w) (hok : ∀ f∈fs,okF f) (hlen : fs.length≤1000) (hod : l.2.2.2.length≤1000) :
  Calls Tryz.prog 54 #[v,.int .i64 sd,fv] w (PostS B l (stl l.1 l.2.1 sd fs l.2.2.2 0 0) w):=by
 obtain ⟨lb,lq,bk,od⟩:=l
 simp only at hod ⊢
 obtain ⟨a1,n1,c1,a2,n2,c2,a3,n3,c3,rfl,e1,e2,e3,hl1,hl2,hl3⟩:=h.open'
 simp only at e1 e2 e3 hl1 hl2 hl3
 obtain ⟨nn,hnn⟩ : ∃ nn,bk.2.2=nn:=⟨_,rfl⟩
 obtain ⟨S,hS⟩ : ∃ S,stl lb lq sd fs od 0 0=S:=⟨_,rfl⟩
 rw [hS]
 obtain ⟨s,hs⟩ : ∃ s,s=w.heap.size:=⟨_,rfl⟩
 obtain ⟨V,hV⟩ : ∃ V,V=(w.alloc (.cells (cN lb lq (.slice a1 n1 c1) (.slice a2 n2 c2) bk.2.2 (.slice a3 n3 c3)) 28)).alloc (.cells (nilN 0 0 0) 28):=⟨_,rfl⟩
 have hbV : Below w.heap.size w V:=hV ▸ below2 w _ _
 have hzV : V.heap.size=s+2:=by rw [hV,hs];simp
 have hx0 : LB B (lb,lq,bk,od) (.slice a1 n1 c1) (.slice a2 n2 c2) (.slice a3 n3 c3) s V:=by rw [hV,hs];exact (LB.made hl1 hl2 hl3 hB.1).stays (below1 _ _)
 have hg0 : V.heap[s+1]?=some (.cells (nilN 0 0 0) 28 (0,0)):=by
  have:=heap_alloc_new (w.alloc (.cells (cN lb lq (.slice a1 n1 c1) (.slice a2 n2 c2) bk.2.2 (.slice a3 n3 c3)) 28)) (.cells (nilN 0 0 0) 28)
  rw [World.size_alloc,← hs] at this
  rw [hV];exact this
 have hst0 : StL B (lb,lq,bk,od) (.slice a1 n1 c1) (.slice a2 n2 c2) (.slice a3 n3 c3) s fs fv w V:=⟨hx0,hg0,Is.stays eFl 91 hf hbV,hs ▸ hbV⟩
 obtain ⟨fa,fc,rfl⟩:=hf.len
 obtain ⟨fn,hfn⟩ : ∃ fn,fs.length=fn:=⟨_,rfl⟩
 rw [hfn] at hlen hst0 ⊢
 have HSt0:=lH hst0
 have HFn:=lH hfn
 have HS:=lH hS
 have HNn:=lH hnn
 have HOk:=lH hok
 rw [hnn] at hV ⊢
 have HV:=lH hV
 subst hs
 clear hx0 hg0 hst0 hfn hS hnn hok hV hl1 hl2 hl3 h hB hf e1 e2 e3 hbV
 go_enter Tryz.func54,Tryz.ntmps54
 go_wp2
 rw [← HV.out]
 go_loopw [10,11,13,14,15,16,17,18,21] (fun p g _ _ _ _ _ _ i wr=>∃ (k : Nat) (pk gk : Int) (ow : List Hd) (o : Value),k≤fn∧i=.int .i64 k∧p=.int .i64 pk∧g=.int .i64 gk∧(0≤pk∧pk≤k*1099511627776∧0≤gk∧gk≤k*1099511627776)∧ow.length≤1000∧StL B (lb,lq,bk,ow) (.slice a1 n1 c1) (.slice a2 n2 c2) o w.heap.size fs (.slice fa fn fc) w wr∧stl lb lq sd (fs.drop k) ow pk gk=S) (fun _ _ _ _ _ _ _ _ i _=>fn - (intOf i).toNat)
 case atStart=>exact ⟨0,0,0,od,_,Nat.zero_le _,rfl,rfl,rfl,by simp,hod,HSt0.out,HS.out⟩
 case round =>
  obtain ⟨k,pk,gk,ow,o,hk,rfl,rfl,rfl,⟨hp1,hp2,hg1,hg2⟩,how,hst,hrest⟩:=hrel
  have HSt:=lH hst
  have HRest:=lH hrest
  obtain ⟨b1,b2,b3,b4,b5,b6⟩:=hst.lb.cells
  simp only at b1 b2 b3 b4 b5 b6
  rw [HNn.out] at b5
  have zb : w.heap.size+1<wr.heap.size:=(Array.getElem?_eq_some_iff.1 hst.g).1
  have hk1000 : (k : Int)≤1000:=by omega
  have zb0 : w.heap.size<wr.heap.size:=by omega
  by_cases hlt : k<fn
  ·have hlt2 : (k : Int)<fn:=by omega
   have hkf : k<fs.length:=by rw [HFn.out];exact hlt
   have hfl:=hst.fl
   rw [← HFn.out] at hfl
   rcases hfl.cases with ⟨e,_⟩ | ⟨_,g,off,cc,e,hat⟩
   ·rw [e] at hkf;cases hkf
   simp only [Value.slice.injEq] at e
   obtain ⟨rfl,_,rfl⟩:=e
   obtain ⟨s0,s1,s2,s3,s4⟩:=atFl hat k hkf
   have hbb:=hat.1
   have hstep:=stl_drop (b:=lb) (q:=lq) (s:=sd) hkf ow pk gk
   rw [HRest.out] at hstep
   have hoo:=HOk.out _ (List.getElem_mem hkf)
   have hpay:=pay_bd (s:=sd) hoo
   obtain ⟨⟨y1,y2,y3,y4,y5⟩,hy⟩ : ∃ x,fs[k]'hkf=x:=⟨_,rfl⟩
   rw [hy] at s0 s1 s2 s3 s4 hstep hoo hpay
   unfold okF at hoo
   simp only at s0 s1 s2 s3 s4 hoo
   have hmb:=mul_bd hoo.1 hoo.2.1 hoo.2.2.1 hoo.2.2.2
   obtain ⟨m,hm⟩ : ∃ m,y3*y4=m:=⟨_,rfl⟩
   rw [hm] at hmb
   obtain ⟨M,hM⟩ : ∃ M,M=wr.alloc (.cells #[.int .i64 y1,.int .i64 y2,.int .i64 y3,.int .i64 y4,.bool y5] 91):=⟨_,rfl⟩
   have hbM : Below wr.heap.size wr M:=hM ▸ below1 wr _
   have hMf : M.heap[wr.heap.size]?=some (.cells #[.int .i64 y1,.int .i64 y2,.int .i64 y3,.int .i64 y4,.bool y5] 91 (0,0)):=by rw [hM];exact heap_alloc_new wr _
   have hzM : M.heap.size=wr.heap.size+1:=by rw [hM];simp
   have hG : ∀ u,Below M.heap.size M u→(u.cell? ⟨w.heap.size,0,none⟩=some (.int .i64 lb)∧u.cell? ⟨w.heap.size,1,none⟩=some (.int .i64 lq)∧u.cell? ⟨w.heap.size,5,none⟩=some o∧w.heap.size<u.heap.size)∧u.cell? ⟨wr.heap.size,1,none⟩=some (.int .i64 y2)∧u.cell? ⟨wr.heap.size,3,none⟩=some (.int .i64 y4)∧wr.heap.size<u.heap.size:=fun u hu=>by
    have g1:=(hu.block _ (by omega)).trans hMf
    obtain ⟨j1,j2,_,_,_,j6⟩:=(HSt.out.stays (nx hbM hu)).lb.cells
    refine ⟨⟨j1,j2,j6,(HSt.out.stays (nx hbM hu)).lb.lt⟩,?_,?_,by have:=hu.size;omega⟩<;>simp [World.cell?,g1]
   have HM:=lH hM
   have HStM:=lH (HSt.out.stays hbM)
   clear hfl hat hy hM hMf hst hrest
   by_cases hsd : sd=1
   ·have hd : (sd==1)=true:=by simpa using hsd
    have ha : astF lb lq sd=lq:=if_pos hsd
    have hpy : payF sd (y1,y2,y3,y4,y5)=m:=(if_pos hsd).trans hm
    have hgt : getF sd (y1,y2,y3,y4,y5)=y4:=if_pos hsd
    rw [ha,hpy,hgt] at hstep
    have hw1 : IntKind.i64.wrap (pk+m)=pk+m:=IntWalk.i64_in _ (by omega)
    have hw2 : IntKind.i64.wrap (gk+y4)=gk+y4:=IntWalk.i64_in _ (by omega)
    have hb1' : pk+m≤9223372036854775807:=by omega
    have hb2' : gk+y4≤9223372036854775807:=by omega
    obtain ⟨E,hE⟩ : ∃ E,giveE ow (y2,lq) m=E:=⟨_,rfl⟩
    have HStep:=lH hstep
    have HE:=lH hE
    have hpayb : 0≤m∧m≤1099511627776∧0≤y4∧y4≤1099511627776:=by omega
    clear ha hpy hgt hstep hE hsd hpay
    go_wp2
    rw [← HM.out]
    refine Rf.rg [0,1,2,3,4,5,6,7,8] ?_
    repeat (first | (refine Rf.Steps.sk ?_;simp only [Act.put,sA,sB,sC]) | (refine Rf.Steps.pu (v:=?_) ?_ ?_;rotate_left;(intro w_ hS_;have hk_:=hG w_ hS_;go_simp<;>with_reducible rfl);simp only [Act.put,sA,sB,sC]))
    refine Rf.Steps.nil (by kernel_rfl) ?_
    intro w6 hb6
    obtain ⟨⟨g0,g1,g5,gz⟩,f1,f3,fz⟩:=hG w6 hb6
    have HSt6:=lH (HStM.out.stays hb6)
    clear hG b1 b2 b3 b4 b5 b6 s0 s1 s2 s3 s4 hbb
    go_wp2_with fail
    refine (Ac.rGive_any ow o y2 lq m w6 HSt6.out.lb.l3 (by omega)).mono ?_
    rintro e w7 ⟨o2,rfl,hb7,ho2⟩
    rw [HE.out]
    obtain ⟨a8,n8,c8,rfl⟩ : ∃ a n c,o2=.slice a n c:=by obtain ⟨a,c,e⟩:=hl_slice ho2;exact ⟨a,_,c,e⟩
    have HSt7:=lH (HSt6.out.stays hb7)
    have HO2:=lH ho2
    clear g0 g1 g5 gz f1 f3 fz ho2
    have gz7 : w.heap.size<w7.heap.size:=HSt7.out.lb.lt
    by_cases he : E=0
    ·have hde : (E != 0)=false:=by simpa using he
     have HNew : Hid (stl lb lq sd (fs.drop (k+1)) (giveL ow (y2,lq) m) (pk+m) (gk+y4)=S):=lH (by rw [HStep.out,HE.out,if_pos he])
     have hgl : (giveL ow (y2,lq) m).length≤1000:=give_len (HE.out.trans he)
     have HGl:=lH hgl
     obtain ⟨_,_,_,_,_,g5⟩:=HSt7.out.lb.cells
     have f5:=HSt7.out.lb.free 5
     clear he hgl
     go_wp2
     go_roundw
     case rel=>exact ⟨k+1,pk+m,gk+y4,_,_,by omega,by go_num,by go_num,by go_num,by constructor<;>omega,HGl.out,HSt7.out.set HO2.out,HNew.out⟩
     case measure=>simp [intOf];omega
    ·have hde : (E != 0)=true:=by simpa using he
     have hfin : S=(ow,0,0,E):=by rw [HStep.out,HE.out,if_neg he]
     have HFin:=lH hfin
     have hrow:=HSt7.out.lb.row
     simp only at hrow
     rw [HNn.out] at hrow
     have hpl : plain 6 w7 (w.heap.size+1)=true:=by simp [Rw.plain,HSt7.out.g]
     obtain ⟨a9,n9,c9,rfl⟩ : ∃ a n c,o=.slice a n c:=by obtain ⟨a,c,e⟩:=hl_slice HSt7.out.lb.l3;exact ⟨a,_,c,e⟩
     have zs1 : w.heap.size+1<w7.heap.size:=(Array.getElem?_eq_some_iff.1 HSt7.out.g).1
     clear hfin he
     go_wp2
     refine bodyPost_ret (v:=.tuple #[.agg (cN lb lq (.slice a1 n1 c1) (.slice a2 n2 c2) nn (.slice a9 n9 c9)),.int .i64 0,.int .i64 0,.int .i64 E]) (ret_N4 Tryz.results54 _ _ rfl ?c1) rfl ⟨_,by rw [HFin.out],?c2,?c3⟩
     case c1=>exact row_set _ hpl
     case c2=>exact below_setRow HSt7.out.bel (Nat.le_succ _) _
     case c3 =>
      have:=(HSt7.out.lb.other (k:=w.heap.size+1) (by omega) (by have:=HSt7.out.lb.lo;omega) HSt7.out.g (cN lb lq (.slice a1 n1 c1) (.slice a2 n2 c2) nn (.slice a9 n9 c9))).ln
      rw [HFin.out,← HNn.out]
      rw [← HNn.out] at this
      exact this
   ·have hd : (sd==1)=false:=by simpa using hsd
    have ha : astF lb lq sd=lb:=if_neg hsd
    have hpy : payF sd (y1,y2,y3,y4,y5)=y4:=if_neg hsd
    have hgt : getF sd (y1,y2,y3,y4,y5)=m:=(if_neg hsd).trans hm
    rw [ha,hpy,hgt] at hstep
    have hw1 : IntKind.i64.wrap (pk+y4)=pk+y4:=IntWalk.i64_in _ (by omega)
    have hw2 : IntKind.i64.wrap (gk+m)=gk+m:=IntWalk.i64_in _ (by omega)
    have hb1' : pk+y4≤9223372036854775807:=by omega
    have hb2' : gk+m≤9223372036854775807:=by omega
    obtain ⟨E,hE⟩ : ∃ E,giveE ow (y2,lb) y4=E:=⟨_,rfl⟩
    have HStep:=lH hstep
    have HE:=lH hE
    have hpayb : 0≤y4∧y4≤1099511627776∧0≤m∧m≤1099511627776:=by omega
    clear ha hpy hgt hstep hE hsd hpay
    go_wp2
    rw [← HM.out]
    refine Rf.rg [0,1,2,3,4,5] ?_
    repeat (first | (refine Rf.Steps.sk ?_;simp only [Act.put,sA,sB,sC]) | (refine Rf.Steps.pu (v:=?_) ?_ ?_;rotate_left;(intro w_ hS_;have hk_:=hG w_ hS_;go_simp<;>with_reducible rfl);simp only [Act.put,sA,sB,sC]))
    refine Rf.Steps.nil (by kernel_rfl) ?_
    intro w6 hb6
    obtain ⟨⟨g0,g1,g5,gz⟩,f1,f3,fz⟩:=hG w6 hb6
    have HSt6:=lH (HStM.out.stays hb6)
    clear hG b1 b2 b3 b4 b5 b6 s0 s1 s2 s3 s4 hbb
    go_wp2_with fail
    refine (Ac.rGive_any ow o y2 lb y4 w6 HSt6.out.lb.l3 (by omega)).mono ?_
    rintro e w7 ⟨o2,rfl,hb7,ho2⟩
    rw [HE.out]
    obtain ⟨a8,n8,c8,rfl⟩ : ∃ a n c,o2=.slice a n c:=by obtain ⟨a,c,e⟩:=hl_slice ho2;exact ⟨a,_,c,e⟩
    have HSt7:=lH (HSt6.out.stays hb7)
    have HO2:=lH ho2
    clear g0 g1 g5 gz f1 f3 fz ho2
    have gz7 : w.heap.size<w7.heap.size:=HSt7.out.lb.lt
    by_cases he : E=0
    ·have hde : (E != 0)=false:=by simpa using he
     have HNew : Hid (stl lb lq sd (fs.drop (k+1)) (giveL ow (y2,lb) y4) (pk+y4) (gk+m)=S):=lH (by rw [HStep.out,HE.out,if_pos he])
     have hgl : (giveL ow (y2,lb) y4).length≤1000:=give_len (HE.out.trans he)
     have HGl:=lH hgl
     obtain ⟨_,_,_,_,_,g5⟩:=HSt7.out.lb.cells
     have f5:=HSt7.out.lb.free 5
     clear he hgl
     go_wp2
     go_roundw
     case rel=>exact ⟨k+1,pk+y4,gk+m,_,_,by omega,by go_num,by go_num,by go_num,by constructor<;>omega,HGl.out,HSt7.out.set HO2.out,HNew.out⟩
     case measure=>simp [intOf];omega
    ·have hde : (E != 0)=true:=by simpa using he
     have hfin : S=(ow,0,0,E):=by rw [HStep.out,HE.out,if_neg he]
     have HFin:=lH hfin
     have hrow:=HSt7.out.lb.row
     simp only at hrow
     rw [HNn.out] at hrow
     have hpl : plain 6 w7 (w.heap.size+1)=true:=by simp [Rw.plain,HSt7.out.g]
     obtain ⟨a9,n9,c9,rfl⟩ : ∃ a n c,o=.slice a n c:=by obtain ⟨a,c,e⟩:=hl_slice HSt7.out.lb.l3;exact ⟨a,_,c,e⟩
     have zs1 : w.heap.size+1<w7.heap.size:=(Array.getElem?_eq_some_iff.1 HSt7.out.g).1
     clear hfin he
     go_wp2
     refine bodyPost_ret (v:=.tuple #[.agg (cN lb lq (.slice a1 n1 c1) (.slice a2 n2 c2) nn (.slice a9 n9 c9)),.int .i64 0,.int .i64 0,.int .i64 E]) (ret_N4 Tryz.results54 _ _ rfl ?c1) rfl ⟨_,by rw [HFin.out],?c2,?c3⟩
     case c1=>exact row_set _ hpl
     case c2=>exact below_setRow HSt7.out.bel (Nat.le_succ _) _
     case c3 =>
      have:=(HSt7.out.lb.other (k:=w.heap.size+1) (by omega) (by have:=HSt7.out.lb.lo;omega) HSt7.out.g (cN lb lq (.slice a1 n1 c1) (.slice a2 n2 c2) nn (.slice a9 n9 c9))).ln
      rw [HFin.out,← HNn.out]
      rw [← HNn.out] at this
      exact this
  ·obtain rfl : k=fn:=by omega
   have hfin : S=(ow,pk,gk,0):=by rw [← HRest.out,← HFn.out,List.drop_length];rfl
   have HFin:=lH hfin
   have hrow:=hst.lb.row
   simp only at hrow
   rw [HNn.out] at hrow
   have hpl : plain 6 wr (w.heap.size+1)=true:=by simp [Rw.plain,hst.g]
   obtain ⟨a9,n9,c9,rfl⟩ : ∃ a n c,o=.slice a n c:=by obtain ⟨a,c,e⟩:=hl_slice hst.lb.l3;exact ⟨a,_,c,e⟩
   have zs : w.heap.size<wr.heap.size:=by omega
   clear hfin hst hlt hp2 hg2 hrest
   go_wp2
   refine bodyPost_ret (v:=.tuple #[.agg (cN lb lq (.slice a1 n1 c1) (.slice a2 n2 c2) nn (.slice a9 n9 c9)),.int .i64 pk,.int .i64 gk,.int .i64 0]) (ret_N4 Tryz.results54 _ _ rfl ?c1) rfl ⟨_,by rw [HFin.out],?c2,?c3⟩
   case c1=>exact row_set _ hpl
   case c2=>exact below_setRow HSt.out.bel (Nat.le_succ _) _
   case c3 =>
    have:=(HSt.out.lb.other (k:=w.heap.size+1) (by omega) (by have:=HSt.out.lb.lo;omega) HSt.out.g (cN lb lq (.slice a1 n1 c1) (.slice a2 n2 c2) nn (.slice a9 n9 c9))).ln
    rw [HFin.out,← HNn.out]
    rw [← HNn.out] at this
    exact this
end Go.Proofs.YthecinmekoaphaaGreat.La
