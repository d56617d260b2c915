/- LaneTurns: walked (written by gen_laturns.py). -/
import Derived.Test.YthecinmekoaphaaGreatQbZZ
import Derived.Test.YthecinmekoaphaaGreatQbBY
import Derived.Deep.CutBlock
set_option linter.unusedVariables false
set_option maxRecDepth 16000
set_option maxHeartbeats 32000000
namespace Go.Proofs.YthecinmekoaphaaGreat.La
open Go.RowKit
open Rw
open Da
open Le
open Bk
open Ac (Hd Pu HL pmay pmay_iff tot total giveE giveL takeE takeL)
theorem mod5 (a : Int) : (IntKind.u64.wrap a).tmod 5=0∨(IntKind.u64.wrap a).tmod 5=1∨(IntKind.u64.wrap a).tmod 5=2∨(IntKind.u64.wrap a).tmod 5=3∨(IntKind.u64.wrap a).tmod 5=4:=by
 have h0 : 0≤IntKind.u64.wrap a:=by rw [IntKind.wrap_u64];omega
 rw [Int.tmod_eq_emod_of_nonneg h0]
 omega
theorem own_h1 {lo : Nat} {l : List Hd} {v : Value} {w : World} (h : HL lo l v w) (hlo : lo≤w.heap.size) (hm : l.length≤1000000) (x y z : Int) :
  ∃ a c w1 a2 c2 w2,appRun Tryz.prog 26 26 (.slice (some ⟨w.heap.size,0,none⟩) 0 0) v (w.alloc (.cells #[] 55))=.ok (.slice a l.length c) w1 ∧
   appRun Tryz.prog 26 26 (.slice a l.length c) (.slice (some ⟨w1.heap.size,0,none⟩) 1 1) (w1.alloc (.cells #[.int .i64 x,.int .i64 y,.int .i64 z] 55))=.ok (.slice a2 (l.length+1) c2) w2∧HL lo (l++[(x,y,z)]) (.slice a2 (l.length+1) c2) w2∧Below w.heap.size w w1∧Below w.heap.size w w2:=by
 have hb:=below1 w (.cells #[] 55)
 have hle : (Bs.of lo).le w.heap.size:=⟨hlo,fun _ h=>h.elim⟩
 obtain ⟨v',w1,hrun,hown,_,hbl,_⟩:=Own.append elemH 26 typesH (B:=Bs.of lo) (Bo:=w.heap.size) (l:=[]) hle hb.size (Own.made _ w _ (Nat.le_refl _)) (Is.stays eH 55 (hl_is h) hb) (by simp;omega) (by decide)
 have hb1:=hbl _ _ (Nat.le_refl _) hb
 rw [List.nil_append] at hown
 obtain ⟨a,c,rfl⟩:=(hown.is (by decide) hle).len
 have hba:=below1 w1 (.cells #[.int .i64 x,.int .i64 y,.int .i64 z] 55)
 obtain ⟨v2,w2,hrun2,hown2,_,hbl2,_⟩:=Own.append elemH 26 typesH (B:=Bs.of lo) (Bo:=w.heap.size) hle (Nat.le_trans hb1.size hba.size) (hown.stays hba) (Is.one (e:=eH) (T:=55) (B:=Bs.of lo) (x:=(x,y,z)) (cs:=[.int .i64 x,.int .i64 y,.int .i64 z]) (w:=w1) ⟨Nat.le_trans hlo hb1.size,fun _ h=>h.elim⟩ rfl) (by simp;omega) (by decide)
 have hi:=hown2.is (by decide) hle
 obtain ⟨a2,c2,rfl⟩:=hi.len
 rw [List.length_append] at hi hrun2
 exact ⟨a,c,w1,a2,c2,w2,hrun,hrun2,is_hl hi,hb1,hbl2 _ _ (Nat.le_refl _) (hb1.trans (hba.mono hb1.size))⟩
theorem place_short {l : Ln} {fr : List Hd} (hs : Sm l) (hf : fr.length≤1000) (ow s p n : Int) (rest : Bool) : (placeN l fr ow s p n rest).2.1.length≤1000000∧Sm (placeN l fr ow s p n rest).1:=by
 by_cases hr : (rightN l&&Ac.right fr)=true
 ·have h2:=hr
  rw [Bool.and_eq_true] at h2
  have k:=(placeN_keep (rightN_iff.1 h2.1) (Ac.right_iff.1 h2.2) ow s p n rest).1
  exact ⟨Nat.le_trans (ac_len k.free) (by decide),sm_right k.right⟩
 ·have e : placeN l fr ow s p n rest=(l,fr,[],0,1):=by unfold placeN;rw [if_neg hr]
  rw [e];exact ⟨Nat.le_trans hf (by decide),hs⟩
def TuP (B : Bs) (s : Nat) (w : World) (f : Value) (u : World) : Prop :=
 ∃ (l : Ln) (fr : List Hd) (a1 : Option Addr) (n1 c1 : Nat) (a2 : Option Addr) (n2 c2 : Nat) (a3 : Option Addr) (n3 c3 : Nat) (a4 : Option Addr) (n4 c4 : Nat),Sm l∧fr.length≤1000∧LB B l (.slice a1 n1 c1) (.slice a2 n2 c2) (.slice a3 n3 c3) s u∧f=.slice a4 n4 c4∧HL B.lo fr (.slice a4 n4 c4) u∧Below w.heap.size w u
theorem walkTurns1 (ops : List Op5) (v : Value) (which by_ : Int) (w : World) (h : PL (Bs.of w.heap.size) ops v w) (h60 : ops.length≤60) :
  Calls Tryz.prog 4 #[v,.int .i64 which,.int .i64 by_] w fun e w'=>e=.returned (.bool true)∧Below w.heap.size w w':=by
 obtain ⟨a0,c0,rfl,hel⟩:=h
 obtain ⟨B,hB'⟩ : ∃ B,B=Bs.of w.heap.size:=⟨_,rfl⟩
 have hB : B.le w.heap.size:=by rw [hB'];exact Bs.of_le _
 obtain ⟨N,hn⟩ : ∃ N,N=ops.length:=⟨_,rfl⟩
 rw [← hn] at h60 ⊢
 have HE:=lH hel
 have HN:=lH hn
 have hd : decide ((60 : Int)<N)=false:=decide_eq_false (by omega)
 have hd' : decide (60<N)=false:=decide_eq_false (by omega)
 have HB:=lH (show ∀ u,Below w.heap.size w u→B.le u.heap.size from fun u hu=>hB.mono hu.size)
 have HNw:=lH (lnew_any 1 2 w)
 clear hel hn hB hB'
 go_enter Tryz.func4,Tryz.ntmps4
 go_wp2_with fail
 refine HNw.out.mono ?_
 rintro e w1 ⟨v1,rfl,hb1,hln⟩
 have hln1 : LN B ln0 v1 w1:=hln B (HB.out w (Below.refl _ _))
 obtain ⟨a1,n1,c1,a2,n2,c2,a3,n3,c3,rfl,-,-,-,hk1,hk2,hk3⟩:=hln1.open'
 rw [show newE 1 2=0 from rfl]
 obtain ⟨M1,hM1⟩ : ∃ M,M=w1.alloc (.cells (cN 1 2 (.slice a1 n1 c1) (.slice a2 n2 c2) 1 (.slice a3 n3 c3)) 28):=⟨_,rfl⟩
 have hbM1 : Below w.heap.size w M1:=nx hb1 (hM1 ▸ below1 w1 _)
 have HX1:=lH (show LB B ln0 (.slice a1 n1 c1) (.slice a2 n2 c2) (.slice a3 n3 c3) w1.heap.size M1 from by rw [hM1];exact LB.made (l:=ln0) hk1 hk2 hk3 (HB.out w1 hb1).1)
 have HM1:=lH hM1
 obtain ⟨s,hs⟩ : ∃ s,w1.heap.size=s:=⟨_,rfl⟩
 rw [hs] at HX1
 have hsz : w.heap.size≤s:=by have:=hb1.size;omega
 clear hln hln1 hk1 hk2 hk3 hM1
 go_wp2_with fail
 rw [← HM1.out]
 refine (rich_any (lo:=B.lo) 60 M1).mono ?_
 rintro e w2 ⟨v2,rfl,hb2,hrich⟩
 obtain ⟨a4,c4,rfl⟩:=hl_slice hrich
 have hbw2:=nx hbM1 hb2
 have HX2:=lH (HX1.out.stays hb2)
 have HF2:=lH hrich
 clear hrich hb2
 go_wp2
 go_loopw [9,33] (fun f i wr=>∃ k : Nat,k≤N∧i=.int .i64 k∧Below w.heap.size w wr∧∃ a1 n1 c1 a2 n2 c2 a3 n3 c3 a4 n4 c4,LB B (ru 60 (ops.take k)).1 (.slice a1 n1 c1) (.slice a2 n2 c2) (.slice a3 n3 c3) s wr∧f=.slice a4 n4 c4∧HL B.lo (ru 60 (ops.take k)).2 (.slice a4 n4 c4) wr) (fun _ i _=>N - (intOf i).toNat)
 case atStart=>exact ⟨0,Nat.zero_le _,rfl,hbw2,_,_,_,_,_,_,_,_,_,_,_,_,HX2.out,rfl,HF2.out⟩
 case round =>
  obtain ⟨k,hk,rfl,hb,a1,n1,c1,a2,n2,c2,a3,n3,c3,a4,n4,c4,hbx,rfl,hfl⟩:=hrel
  obtain ⟨⟨l,fr⟩,hlf⟩ : ∃ L,ru 60 (ops.take k)=L:=⟨_,rfl⟩
  obtain ⟨hR,hRf⟩:=ru_right 60 (ops.take k)
  rw [hlf] at hbx hfl hR hRf
  simp only at hbx hfl hR hRf
  have HR:=lH hR
  have HRf:=lH hRf
  have HX:=lH hbx
  have HF:=lH hfl
  have HLf:=lH hlf
  have r0:=hbx.row
  have z0:=hbx.lt
  clear hbx hfl hlf hR hRf
  by_cases hlt : k<N
  ·have hlt2 : (k : Int)<N:=by omega
   have hko : k<ops.length:=by rw [← HN.out];exact hlt
   rcases HE.out with ⟨e,_⟩ | ⟨bo,off,rfl,hat⟩
   ·rw [e] at hko;cases hko
   obtain ⟨q0,q1,q2,q3,q4⟩:=atP (Lies.keep eP 36 hat (Keeps.of_below hb)) k hko
   have hbb : bo<wr.heap.size:=Nat.lt_of_lt_of_le hat.1 hb.size
   obtain ⟨⟨o1,o2,o3,o4,o5⟩,ho⟩ : ∃ x,ops[k]'hko=x:=⟨_,rfl⟩
   rw [ho] at q0 q1 q2 q3 q4
   simp only at q0 q1 q2 q3 q4
   have HSt:=lH (show ru 60 (ops.take (k+1))=((stepN l fr (o1,o2,o3,o4,o5)).1,(stepN l fr (o1,o2,o3,o4,o5)).2.1) from by rw [ru_take hko,HLf.out,ho])
   obtain ⟨⟨m,fr',er⟩,hC⟩ : ∃ C,stepN l fr (o1,o2,o3,o4,o5)=C:=⟨_,rfl⟩
   rw [hC] at HSt
   have HC:=lH hC
   obtain ⟨V,hV⟩ : ∃ V,V=wr.alloc (.cells #[.int .i64 o1,.int .i64 o2,.int .i64 o3,.int .i64 o4,.int .i64 o5] 36):=⟨_,rfl⟩
   have hbV : Below wr.heap.size wr V:=hV ▸ below1 wr _
   have HV:=lH hV
   have hbVw:=nx hb hbV
   have HXV:=lH (HX.out.stays hbV)
   have HFV:=lH (hl_stays HF.out hbV)
   clear ho hat hV hC
   go_wp2_with fail
   rw [← HV.out]
   refine (step_any B l fr _ _ o1 o2 o3 o4 o5 V HXV.out.ln HFV.out (HB.out V hbVw) (sm_right HR.out) (ac_len HRf.out)).mono ?_
   rw [HC.out]
   rintro e w3 ⟨b1,m1,d1,b2,m2,d2,b3,m3,d3,b4,m4,d4,rfl,hd9,hln,hfl⟩
   simp only at hln hfl
   obtain ⟨h1,h2,h3⟩:=hln.inv
   have hx3:=HXV.out.stays hd9
   have hb3:=nx hbVw hd9
   have z3:=hx3.lt
   have p3:=hx3.plain
   obtain ⟨hxX,hfX,hbX⟩:=box_put (m:=m) hx3 hsz hb3 h1 h2 h3 hfl
   have HXX:=lH hxX
   have HFX:=lH hfX
   have HbX:=lH hbX
   clear hx3 hb3 h1 h2 h3 hxX hfX hbX hln hfl hd9 r0 z0
   go_wp2
   go_roundw
   case rel=>exact ⟨k+1,by omega,by go_num,HbX.out,_,_,_,_,_,_,_,_,_,_,_,_,by rw [HSt.out];exact HXX.out,rfl,by rw [HSt.out];exact HFX.out⟩
   case measure=>simp [intOf];omega
  ·obtain rfl : k=N:=by omega
   clear r0 z0 hlt hk
   have HSm:=lH (sm_right HR.out)
   have HOd:=lH (show l.2.2.2.length≤512 from Ac.right_512 HR.out.owed)
   have HFd:=lH (show fr.length≤512 from Ac.right_512 HRf.out)
   go_upto_block 2 with fail
   go_cut [9] (TuP B s w)
   case first =>
    as_aux_lemma =>
     rcases mod5 which with hc | hc | hc | hc | hc
     ·have hu:=HX.out.set (m:=(by_,l.2.1,l.2.2.1,l.2.2.2)) 0 (.int .i64 by_) rfl HX.out.l1 HX.out.l2 HX.out.l3
      have hk:=hl_keep HF.out (keeps_setCell 0 (.int .i64 by_) HX.out.bk (by decide) HX.out.lo)
      have HU:=lH (show _∧_ from ⟨hu,hk⟩)
      have hlw:=lH (hb.trans (low_setCell (w:=wr) (n:=w.heap.size) 0 (.int .i64 by_) hsz))
      obtain ⟨q0,q1,q2,q3,q4,q5⟩:=HX.out.cells
      have f0:=HX.out.free 0
      have z0:=HX.out.lt
      clear hu hk
      go_wp2
      go_meet
      exact ⟨(by_,l.2.1,l.2.2.1,l.2.2.2),fr,_,_,_,_,_,_,_,_,_,_,_,_,⟨HSm.out.m1,HSm.out.m2,HSm.out.m3,HSm.out.m4,HSm.out.m5⟩,Nat.le_trans HFd.out (by decide),HU.out.1,rfl,HU.out.2,hlw.out⟩
     ·obtain ⟨a,c,x1,a6,c6,x2,hrun1,hrun2,hh,hbx1,hbx2⟩:=own_h1 (w:=wr) HX.out.l3 (HB.out wr hb).1 (Nat.le_trans HOd.out (by decide)) 9 by_ 1
      have hl3 : n3=l.2.2.2.length:=by
       obtain ⟨_,_,e⟩:=hl_slice HX.out.l3
       simp only [Value.slice.injEq] at e
       exact e.2.1
      rw [← hl3] at hrun1 hrun2 hh
      have hx2:=HX.out.stays hbx2
      have hu:=hx2.set (m:=(l.1,l.2.1,l.2.2.1,l.2.2.2++[(9,by_,1)])) 5 (.slice a6 (n3+1) c6) rfl hx2.l1 hx2.l2 hh
      have hk:=hl_keep (hl_stays HF.out hbx2) (keeps_setCell 5 (.slice a6 (n3+1) c6) hx2.bk (by decide) hx2.lo)
      have HU:=lH (show _∧_ from ⟨hu,hk⟩)
      have hlw:=lH ((nx hb hbx2).trans (low_setCell (w:=x2) (n:=w.heap.size) 5 (.slice a6 (n3+1) c6) hsz))
      obtain ⟨q0,q1,q2,q3,q4,q5⟩:=HX.out.cells
      obtain ⟨p0,p1,p2,p3,p4,p5⟩:=hx2.cells
      have f5:=hx2.free 5
      have z0:=HX.out.lt
      have z2:=hx2.lt
      have hle:=lH (show (l.2.2.2++[(9,by_,1)]).length≤1000 from by have:=HOd.out;simp;omega)
      clear hu hk hh hx2 hbx1 hbx2 hl3
      go_wp2
      go_meet
      exact ⟨(l.1,l.2.1,l.2.2.1,l.2.2.2++[(9,by_,1)]),fr,_,_,_,_,_,_,_,_,_,_,_,_,⟨HSm.out.m1,HSm.out.m2,HSm.out.m3,HSm.out.m4,hle.out⟩,Nat.le_trans HFd.out (by decide),HU.out.1,rfl,HU.out.2,hlw.out⟩
     ·have hu:=HX.out.set (m:=(l.1,l.2.1,(l.2.2.1.1,l.2.2.1.2.1,by_),l.2.2.2)) 4 (.int .i64 by_) rfl HX.out.l1 HX.out.l2 HX.out.l3
      have hk:=hl_keep HF.out (keeps_setCell 4 (.int .i64 by_) HX.out.bk (by decide) HX.out.lo)
      have HU:=lH (show _∧_ from ⟨hu,hk⟩)
      have hlw:=lH (hb.trans (low_setCell (w:=wr) (n:=w.heap.size) 4 (.int .i64 by_) hsz))
      obtain ⟨q0,q1,q2,q3,q4,q5⟩:=HX.out.cells
      have f0:=HX.out.free 4
      have z0:=HX.out.lt
      clear hu hk
      go_wp2
      go_meet
      exact ⟨(l.1,l.2.1,(l.2.2.1.1,l.2.2.1.2.1,by_),l.2.2.2),fr,_,_,_,_,_,_,_,_,_,_,_,_,⟨HSm.out.m1,HSm.out.m2,HSm.out.m3,HSm.out.m4,HSm.out.m5⟩,Nat.le_trans HFd.out (by decide),HU.out.1,rfl,HU.out.2,hlw.out⟩
     ·obtain ⟨a,c,x1,a6,c6,x2,hrun1,hrun2,hh,hbx1,hbx2⟩:=own_h1 (w:=wr) HF.out (HB.out wr hb).1 (Nat.le_trans HFd.out (by decide)) 1 by_ 1
      have hl4 : n4=fr.length:=by
       obtain ⟨_,_,e⟩:=hl_slice HF.out
       simp only [Value.slice.injEq] at e
       exact e.2.1
      rw [← hl4] at hrun1 hrun2 hh
      have HU:=lH (HX.out.stays hbx2)
      have HH:=lH hh
      have hlw:=lH (nx hb hbx2)
      have hle:=lH (show (fr++[(1,by_,1)]).length≤1000 from by have:=HFd.out;simp;omega)
      clear hh hbx1 hbx2 hl4
      go_wp2
      go_meet
      exact ⟨l,fr++[(1,by_,1)],_,_,_,_,_,_,_,_,_,_,_,_,HSm.out,hle.out,HU.out,rfl,HH.out,hlw.out⟩
     ·go_wp2
      go_meet
      exact ⟨l,fr,_,_,_,_,_,_,_,_,_,_,_,_,HSm.out,Nat.le_trans HFd.out (by decide),HX.out,rfl,HF.out,hb⟩
   case rest =>
    obtain ⟨l',fr2,a1,n1,c1,a2,n2,c2,a3,n3,c3,a4,n4,c4,hsm,hfn,hx,rfl,hf,hbc⟩:=hcut
    have HSm':=lH hsm
    have HX':=lH hx
    have HF':=lH hf
    obtain ⟨⟨m,fr',fs,q,er⟩,hC⟩ : ∃ C,placeN l' fr2 1 1 5 2 true=C:=⟨_,rfl⟩
    have HC:=lH hC
    have hfs : fr'.length≤1000000∧Sm m:=by
     have h1:=place_short (l:=l') (fr:=fr2) hsm hfn 1 1 5 2 true
     rw [hC] at h1
     exact h1
    have HM:=lH hfs
    have hee : (er==er)=true:=by simp
    have r0:=hx.row
    have z0:=hx.lt
    clear hsm hx hf hC hfs
    go_wp2_with fail
    refine (lplace_any B l' _ fr2 _ 1 1 5 2 true wc HX'.out.ln HF'.out (HB.out wc hbc) HSm'.out hfn).mono ?_
    rw [HC.out]
    rintro e w3 ⟨v3,f3,g3,rfl,hd9,hln,hfl,hgl⟩
    simp only at hln hfl hgl
    obtain ⟨b1,m1,d1,b2,m2,d2,b3,m3,d3,rfl,-,-,-,h1,h2,h3⟩:=hln.open'
    obtain ⟨b4,d4,rfl⟩:=hl_slice hfl
    obtain ⟨g5,k5,rfl⟩:=hgl.len
    obtain ⟨X,hX⟩ : ∃ X,X=w3.alloc (.cells (cN m.1 m.2.1 (.slice b1 m1 d1) (.slice b2 m2 d2) m.2.2.1.2.2 (.slice b3 m3 d3)) 28):=⟨_,rfl⟩
    have hbX : Below w3.heap.size w3 X:=hX ▸ below1 w3 _
    have hb3w:=nx hbc hd9
    have hbVX:=nx hd9 hbX
    have hbXw:=nx hbc hbVX
    obtain ⟨bx,hbx⟩ : ∃ s,w3.heap.size=s:=⟨_,rfl⟩
    have hxx : LB B m (.slice b1 m1 d1) (.slice b2 m2 d2) (.slice b3 m3 d3) bx X:=by rw [hX,← hbx];exact LB.made h1 h2 h3 (HB.out w3 hb3w).1
    have HXX:=lH hxx
    have HX3:=lH (HX'.out.stays hbVX)
    have HF3:=lH (hl_stays HF'.out hbVX)
    have HFX:=lH (hl_stays hfl hbX)
    have HXf:=lH hX
    have hy3:=HX'.out.stays hd9
    clear r0 z0
    have r0:=hy3.row
    have z0:=hy3.lt
    have HBx:=lH hbx
    clear hX hxx hy3 hbx hln hfl hgl h1 h2 h3 hd9 hbX hb3w
    go_wp2_with fail
    rw [← HXf.out,HBx.out]
    refine (rPlace10_any B l' _ fr2 _ 1 1 5 2 true X HX3.out.ln HF3.out (HB.out X hbXw) HSm'.out hfn).mono ?_
    rw [HC.out]
    rintro e w4 ⟨v3,f3,g3,rfl,hd9,hln,hfl,hgl⟩
    simp only at hln hfl hgl
    obtain ⟨e1,i1,j1,e2,i2,j2,e3,i3,j3,rfl,-,-,-,h1,h2,h3⟩:=hln.open'
    obtain ⟨e4,j4,rfl⟩:=hl_slice hfl
    obtain ⟨g6,k6,rfl⟩:=hgl.len
    obtain ⟨Y,hY⟩ : ∃ X,X=w4.alloc (.cells (cN m.1 m.2.1 (.slice e1 i1 j1) (.slice e2 i2 j2) m.2.2.1.2.2 (.slice e3 i3 j3)) 28):=⟨_,rfl⟩
    have hbY : Below w4.heap.size w4 Y:=hY ▸ below1 w4 _
    have hb4w:=nx hbXw hd9
    have hbXY:=nx hd9 hbY
    have HbY:=lH (nx hbXw hbXY)
    obtain ⟨by',hby⟩ : ∃ s,w4.heap.size=s:=⟨_,rfl⟩
    have hyy : LB B m (.slice e1 i1 j1) (.slice e2 i2 j2) (.slice e3 i3 j3) by' Y:=by rw [hY,← hby];exact LB.made h1 h2 h3 (HB.out w4 hb4w).1
    have HYY:=lH hyy
    have HXY:=lH (HXX.out.stays hbXY)
    have HX4:=lH (HX3.out.stays hbXY)
    have HFY:=lH (hl_stays HFX.out hbXY)
    have HGY:=lH (hl_stays hfl hbY)
    have HYf:=lH hY
    have HBy:=lH hby
    obtain ⟨R1,hR1⟩ : ∃ x,reserved l' 2=x:=⟨_,rfl⟩
    obtain ⟨R2,hR2⟩ : ∃ x,owedN l' 1=x:=⟨_,rfl⟩
    obtain ⟨R3,hR3⟩ : ∃ x,rightN l'=x:=⟨_,rfl⟩
    have HR':=lH (show reserved l' 2=R1∧owedN l' 1=R2∧rightN l'=R3 from ⟨hR1,hR2,hR3⟩)
    have hn1 : (R1==R1)=true:=by simp
    have hn2 : (R2==R2)=true:=by simp
    have hn3 : (R3==R3)=true:=by simp
    have hF : ∀ u,Below Y.heap.size Y u→row u s=cN l'.1 l'.2.1 (.slice a1 n1 c1) (.slice a2 n2 c2) l'.2.2.1.2.2 (.slice a3 n3 c3)∧s<u.heap.size∧row u bx=cN m.1 m.2.1 (.slice b1 m1 d1) (.slice b2 m2 d2) m.2.2.1.2.2 (.slice b3 m3 d3)∧bx<u.heap.size∧row u by'=cN m.1 m.2.1 (.slice e1 i1 j1) (.slice e2 i2 j2) m.2.2.1.2.2 (.slice e3 i3 j3)∧by'<u.heap.size:=fun u hu =>
     ⟨(HX4.out.stays hu).row,(HX4.out.stays hu).lt,(HXY.out.stays hu).row,(HXY.out.stays hu).lt,(HYY.out.stays hu).row,(HYY.out.stays hu).lt⟩
    have HBz:=lH (show ∀ u,Below Y.heap.size Y u→B.le u.heap.size from fun u hu=>HB.out u (nx HbY.out hu))
    clear r0 z0 hY hyy hby hln hfl hgl h1 h2 h3 hd9 hbY hb4w hbVX hbXY hbXw hR1 hR2 hR3
    go_upto_region 21 with fail
    rw [← HYf.out,HBy.out]
    refine Rh.rb [0,1,2,3,4,5,6,7,8,9,10,11,12,13,14,15,16,17,18,19,20,21,22,23,24,25,26,27,28,29,30,31,32,33,34,35,36,37] ?_
    repeat (first | (refine Rh.Steps.sk ?_;simp only [Act.put,sA,sB,sC]) | (refine Rh.Steps.pu (v:=?_) ?_ ?_;rotate_left;(intro w_ hS_;have hk_:=hF w_ hS_;go_simp<;>with_reducible rfl);simp only [Act.put,sA,sB,sC]) | (refine Rh.Steps.ca (v:=?_) (f:=?_) (args:=?_) ?_ ?_ ?_;rotate_left 3;(intro w_ hS_;have hk_:=hF w_ hS_;go_simp<;>first | with_reducible rfl | (constructor<;>with_reducible rfl));(intro w_ hS_;have hk_:=hF w_ hS_;first | (go_at_call 9;refine (same_yes (B:=B) (B':=B) m _ _ w_ (HXY.out.stays hS_).ln (HYY.out.stays hS_).ln (HBz.out w_ hS_) (HBz.out w_ hS_) HM.out.2).mono ?_;first | (rintro e w_ ⟨rfl,rfl⟩;refine ⟨?_,Below.refl _ _⟩;with_reducible rfl) | (rintro e w_ ⟨rfl,hb_⟩;refine ⟨?_,hb_⟩;with_reducible rfl)) | (go_at_call 19;refine (holdings_yes fr' _ _ w_ (hl_stays HFY.out hS_) (hl_stays HGY.out hS_) HM.out.1).mono ?_;first | (rintro e w_ ⟨rfl,rfl⟩;refine ⟨?_,Below.refl _ _⟩;with_reducible rfl) | (rintro e w_ ⟨rfl,hb_⟩;refine ⟨?_,hb_⟩;with_reducible rfl)) | (go_at_call 20;refine (res_is HR'.out.1 (HX4.out.stays hS_).ln (HBz.out w_ hS_) HSm'.out).mono ?_;first | (rintro e w_ ⟨rfl,rfl⟩;refine ⟨?_,Below.refl _ _⟩;with_reducible rfl) | (rintro e w_ ⟨rfl,hb_⟩;refine ⟨?_,hb_⟩;with_reducible rfl)) | (go_at_call 21;refine (rres_is HR'.out.1 (HX4.out.stays hS_).ln (HBz.out w_ hS_) HSm'.out).mono ?_;first | (rintro e w_ ⟨rfl,rfl⟩;refine ⟨?_,Below.refl _ _⟩;with_reducible rfl) | (rintro e w_ ⟨rfl,hb_⟩;refine ⟨?_,hb_⟩;with_reducible rfl)) | (go_at_call 22;refine (owe_is HR'.out.2.1 (HX4.out.stays hS_).ln (HBz.out w_ hS_) HSm'.out).mono ?_;first | (rintro e w_ ⟨rfl,rfl⟩;refine ⟨?_,Below.refl _ _⟩;with_reducible rfl) | (rintro e w_ ⟨rfl,hb_⟩;refine ⟨?_,hb_⟩;with_reducible rfl)) | (go_at_call 23;refine (rowe_is HR'.out.2.1 (HX4.out.stays hS_).ln (HBz.out w_ hS_) HSm'.out).mono ?_;first | (rintro e w_ ⟨rfl,rfl⟩;refine ⟨?_,Below.refl _ _⟩;with_reducible rfl) | (rintro e w_ ⟨rfl,hb_⟩;refine ⟨?_,hb_⟩;with_reducible rfl)) | (go_at_call 24;refine (lrt_is HR'.out.2.2 (HX4.out.stays hS_).ln (HBz.out w_ hS_) HSm'.out).mono ?_;first | (rintro e w_ ⟨rfl,rfl⟩;refine ⟨?_,Below.refl _ _⟩;with_reducible rfl) | (rintro e w_ ⟨rfl,hb_⟩;refine ⟨?_,hb_⟩;with_reducible rfl)) | (go_at_call 25;refine (rright_is HR'.out.2.2 (HX4.out.stays hS_).ln (HBz.out w_ hS_) HSm'.out).mono ?_;first | (rintro e w_ ⟨rfl,rfl⟩;refine ⟨?_,Below.refl _ _⟩;with_reducible rfl) | (rintro e w_ ⟨rfl,hb_⟩;refine ⟨?_,hb_⟩;with_reducible rfl)) | (go_at_call 10;refine (awake_any w_).mono ?_;first | (rintro e w_ ⟨rfl,rfl⟩;refine ⟨?_,Below.refl _ _⟩;with_reducible rfl) | (rintro e w_ ⟨rfl,hb_⟩;refine ⟨?_,hb_⟩;with_reducible rfl)));simp only [Act.put,sA,sB,sC]))
    refine Rh.Steps.nil (by kernel_rfl) ?_
    intro w9_ hS9_ _
    have hfin9:=nx HbY.out hS9_
    go_wp2
    go_ret
    exact ⟨rfl,hfin9⟩
theorem walkTurns2 (ops : List Op5) (v : Value) (which by_ : Int) (w : World) (h : PL (Bs.of w.heap.size) ops v w) (h60 : ¬ ops.length≤60) :
  Calls Tryz.prog 4 #[v,.int .i64 which,.int .i64 by_] w fun e w'=>e=.returned (.bool true)∧Below w.heap.size w w':=by
 obtain ⟨a0,c0,rfl,hel⟩:=h
 obtain ⟨B,hB'⟩ : ∃ B,B=Bs.of w.heap.size:=⟨_,rfl⟩
 have hB : B.le w.heap.size:=by rw [hB'];exact Bs.of_le _
 obtain ⟨N,hn⟩ : ∃ N,N=ops.length:=⟨_,rfl⟩
 rw [← hn] at h60 ⊢
 have HE:=lH hel
 have HN:=lH hn
 have hd : decide ((60 : Int)<N)=true:=decide_eq_true (by omega)
 have hd' : decide (60<N)=true:=decide_eq_true (by omega)
 have HB:=lH (show ∀ u,Below w.heap.size w u→B.le u.heap.size from fun u hu=>hB.mono hu.size)
 have HNw:=lH (lnew_any 1 2 w)
 clear hel hn hB hB'
 go_enter Tryz.func4,Tryz.ntmps4
 go_wp2_with fail
 refine HNw.out.mono ?_
 rintro e w1 ⟨v1,rfl,hb1,hln⟩
 have hln1 : LN B ln0 v1 w1:=hln B (HB.out w (Below.refl _ _))
 obtain ⟨a1,n1,c1,a2,n2,c2,a3,n3,c3,rfl,-,-,-,hk1,hk2,hk3⟩:=hln1.open'
 rw [show newE 1 2=0 from rfl]
 obtain ⟨M1,hM1⟩ : ∃ M,M=w1.alloc (.cells (cN 1 2 (.slice a1 n1 c1) (.slice a2 n2 c2) 1 (.slice a3 n3 c3)) 28):=⟨_,rfl⟩
 have hbM1 : Below w.heap.size w M1:=nx hb1 (hM1 ▸ below1 w1 _)
 have HX1:=lH (show LB B ln0 (.slice a1 n1 c1) (.slice a2 n2 c2) (.slice a3 n3 c3) w1.heap.size M1 from by rw [hM1];exact LB.made (l:=ln0) hk1 hk2 hk3 (HB.out w1 hb1).1)
 have HM1:=lH hM1
 obtain ⟨s,hs⟩ : ∃ s,w1.heap.size=s:=⟨_,rfl⟩
 rw [hs] at HX1
 have hsz : w.heap.size≤s:=by have:=hb1.size;omega
 clear hln hln1 hk1 hk2 hk3 hM1
 go_wp2_with fail
 rw [← HM1.out]
 refine (rich_any (lo:=B.lo) 60 M1).mono ?_
 rintro e w2 ⟨v2,rfl,hb2,hrich⟩
 obtain ⟨a4,c4,rfl⟩:=hl_slice hrich
 have hbw2:=nx hbM1 hb2
 have HX2:=lH (HX1.out.stays hb2)
 have HF2:=lH hrich
 clear hrich hb2
 go_wp2_with fail
 refine (awake_any w2).mono ?_
 rintro e w9 ⟨rfl,hb9⟩
 have hfin9:=nx hbw2 hb9
 go_wp2
 go_ret
 exact ⟨rfl,hfin9⟩
theorem walkTurns (ops : List Op5) (v : Value) (which by_ : Int) (w : World) (h : PL (Bs.of w.heap.size) ops v w) (_ : wfPs ops) {P Q : Prop} (_ : P) (_ : Q) :
  Calls Tryz.prog 4 #[v,.int .i64 which,.int .i64 by_] w fun e w'=>e=.returned (.bool true)∧Below w.heap.size w w':=by
 by_cases h60 : ops.length≤60
 ·exact walkTurns1 ops v which by_ w h h60
 ·exact walkTurns2 ops v which by_ w h h60
end Go.Proofs.YthecinmekoaphaaGreat.La
