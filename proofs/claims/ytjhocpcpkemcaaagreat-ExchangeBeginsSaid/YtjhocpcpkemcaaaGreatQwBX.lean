/- The document's own of layer 12: holdings, compared. -/
import Derived.Test.YtjhocpcpkemcaaaGreatQwZZ
import Derived.Test.YtjhocpcpkemcaaaGreatQwAP
import Derived.Test.YtjhocpcpkemcaaaGreatQwAG
import Derived.Test.YtjhocpcpkemcaaaGreatQwAV
set_option linter.unusedVariables false
set_option maxRecDepth 16000
set_option maxHeartbeats 32000000
namespace Go.Proofs.YtjhocpcpkemcaaaGreat.Ac
open Go.RowKit
open Rw
open Sl
variable {lo : Nat}
theorem rHoldings_any (l m : List Hd) (v x : Value) (w : World) (h : HL lo l v w) (k : HL lo m x w) (hm : l.length≤1000000) :
  Calls Tryz.prog 52 #[v,x] w fun e w'=>e=.returned (.bool (decide (l=m)))∧Below w.heap.size w w':=by
 by_cases hlen : l.length=m.length
 ·rcases h.cases with ⟨rfl,a,c,rfl⟩ | ⟨hne,b,off,c,rfl,hat⟩
  ·have em : m=[]:=List.eq_nil_of_length_eq_zero hlen.symm
   subst em
   obtain ⟨a2,c2,rfl⟩ : ∃ a2 c2,x=.slice a2 0 c2:=by
    obtain ⟨a2,c2,e,_⟩:=k;exact ⟨a2,c2,e⟩
   clear h k hlen
   go_enter Tryz.func52,Tryz.ntmps52
   go_wp2
   go_loopw [13] (fun i wr=>i=.int .i64 0∧Below w.heap.size w wr) (fun i _=>0)
   case atStart=>exact ⟨rfl,Below.refl _ _⟩
   case round =>
    obtain ⟨rfl,hb⟩:=hrel
    go_wp2
    go_ret
    exact ⟨by simp,hb⟩
  ·rcases k.cases with ⟨rfl,_⟩ | ⟨hne2,b2,off2,c2,rfl,hat2⟩
   ·exact absurd (List.eq_nil_of_length_eq_zero hlen) hne
   ·have HA:=lH hat
    have HB:=lH hat2
    have hbb:=hat.1
    have hbb2:=hat2.1
    obtain ⟨n,hn⟩ : ∃ n,n=l.length:=⟨_,rfl⟩
    rw [← hlen,← hn]
    have HN:=lH hn
    have HN2:=lH (hn.trans hlen)
    rw [← hn] at hm
    clear h k hat hat2 hn hne hne2 hlen
    go_enter Tryz.func52,Tryz.ntmps52
    go_wp2
    go_loopw [13] (fun i wr=>∃ k : Nat,k≤n∧i=.int .i64 k∧Below w.heap.size w wr∧l.take k=m.take k) (fun i _=>n - (intOf i).toNat)
    case atStart=>exact ⟨0,Nat.zero_le _,rfl,Below.refl _ _,rfl⟩
    case round =>
     obtain ⟨k,hk,rfl,hb,hsame⟩:=hrel
     have HS:=lH hsame
     clear hsame
     by_cases hlt : k<n
     ·have hlt2 : (k : Int)<n:=by omega
      have hkl : k<l.length:=by rw [← HN.out];exact hlt
      have hkm : k<m.length:=by rw [← HN2.out];exact hlt
      obtain ⟨⟨x1,x2,x3⟩,hx⟩ : ∃ x,l[k]=x:=⟨_,rfl⟩
      obtain ⟨⟨y1,y2,y3⟩,hy⟩ : ∃ x,m[k]=x:=⟨_,rfl⟩
      have hc:=at3 HA.out k hkl
      have hd:=at3 HB.out k hkm
      rw [hx] at hc
      rw [hy] at hd
      simp only at hc hd
      obtain ⟨q0,q1,q2⟩:=hc
      obtain ⟨s0,s1,s2⟩:=hd
      obtain ⟨c1,f1,r1,p1⟩:=bcell hb
      cases he : eqH (x1,x2,x3) (y1,y2,y3)
      ·have HZ : Hid (decide (l=m)=false):=lH (by
        rw [decide_eq_false_iff_not]
        intro e
        subst e
        rw [hx] at hy
        rw [hy] at he
        rw [eqH_iff.2 rfl] at he;cases he)
       clear hx hy
       go_wp2
       go_quiet (fail)
       go_wp2
       go_ret
       exact ⟨ret_bool HZ.out.symm,below_drewN hb _⟩
      ·have HZ : Hid (l.take (k+1)=m.take (k+1)):=lH (by rw [take_snoc hkl,take_snoc hkm,HS.out,hx,hy,eqH_iff.1 he])
       clear hx hy
       go_wp2
       go_quiet (fail)
       go_wp2
       go_roundw
       case rel=>exact ⟨k+1,by omega,by go_num,below_drewN hb _,HZ.out⟩
       case measure=>simp [intOf];omega
     ·obtain rfl : k=n:=by omega
      have HZ : Hid (decide (l=m)=true):=lH (by
       have:=HS.out
       rw [HN.out,List.take_length,← HN.out,HN2.out,List.take_length] at this
       simpa using this)
      go_wp2
      go_ret
      exact ⟨ret_bool HZ.out.symm,hb⟩
 ·have HZ : Hid (decide (l=m)=false):=lH (by rw [decide_eq_false_iff_not];exact fun e=>hlen (by rw [e]))
  obtain ⟨a,c,rfl,_⟩:=h
  obtain ⟨a2,c2,rfl,_⟩:=k
  have hd : ((l.length : Int) != m.length)=true:=by rw [bne_iff_ne];exact fun e=>hlen (by exact_mod_cast e)
  go_enter Tryz.func52,Tryz.ntmps52
  go_wp2
  go_ret
  exact ⟨ret_bool HZ.out.symm,Below.refl _ _⟩
theorem rHoldings_is {l m : List Hd} {r : Bool} (H : Hid (decide (l=m)=r)) {v x : Value} {w : World} (h : HL lo l v w) (k : HL lo m x w) (hm : l.length≤1000000) :
  Calls Tryz.prog 52 #[v,x] w fun e w'=>e=.returned (.bool r)∧Below w.heap.size w w':=by
 rw [← H.out];exact rHoldings_any l m v x w h k hm
end Go.Proofs.YtjhocpcpkemcaaaGreat.Ac
namespace Go.Proofs.YtjhocpcpkemcaaaGreat.Le
open Go.RowKit
open Rw
open Da
theorem take_eq {α : Type} {l m : List α} {k : Nat} (h1 : k<l.length) (h2 : k<m.length) (h : l.take k=m.take k) (e : l[k]=m[k]) : l.take (k+1)=m.take (k+1):=by
 rw [Da.take_snoc h1,Da.take_snoc h2,h,e]
theorem ne_at {α : Type} {l m : List α} {k : Nat} (h1 : k<l.length) (h2 : k<m.length) (e : l[k]≠m[k]) : l≠m:=fun h=>by subst h;exact e rfl
theorem rSameO_any (B B' : Bs) (l m : List Lv) (v x : Value) (w : World) (h : LL B l v w) (k : LL B' m x w) (hB : B.le w.heap.size) (hB' : B'.le w.heap.size) (hm : l.length≤1000) (hf : (flat l).length≤1000) (hm2 : m.length≤1000) (hf2 : (flat m).length≤1000) :
  Calls Tryz.prog 53 #[v,x] w fun e w'=>e=.returned (.bool (sameB (flat l) (flat m)))∧Below w.heap.size w w':=by
 have HA:=lH h
 have HB:=lH k
 obtain ⟨a1,c1,rfl⟩:=Is.len eL 106 h
 obtain ⟨a2,c2,rfl⟩:=Is.len eL 106 k
 clear h k
 go_enter Tryz.func53,Tryz.ntmps53
 go_wp2_with fail
 refine (rOrders_any B l _ w HA.out hB (by omega) (by omega)).mono ?_
 rintro e w1 ⟨v1,rfl,hb1,o1⟩
 go_wp2_with fail
 refine (rOrders_any B' m _ w1 (Is.stays eL 106 HB.out hb1) ⟨Nat.le_trans hB'.1 hb1.size,fun b hb=>Nat.lt_of_lt_of_le (hB'.2 b hb) hb1.size⟩ (by omega) (by omega)).mono ?_
 rintro e w2 ⟨v2,rfl,hb2,o2⟩
 have o1:=Is.stays eO 74 o1 hb2
 have hb0:=nx hb1 hb2
 obtain ⟨b1,d1,rfl,h1⟩:=o1
 obtain ⟨b2,d2,rfl,h2⟩:=o2
 obtain ⟨L,hL⟩ : ∃ L,flat l=L:=⟨_,rfl⟩
 obtain ⟨M,hM⟩ : ∃ M,flat m=M:=⟨_,rfl⟩
 rw [hL] at h1 hf ⊢
 rw [hM] at h2 hf2 ⊢
 have HA:=lH h1
 have HB:=lH h2
 have hm : L.length≤1000000:=by omega
 have HLM:=lH (show sameB (flat l) (flat m)=sameB L M by rw [hL,hM])
 clear h1 h2 hb1 hb2 hf hf2 hL hM hm2 hB hB'
 by_cases hlen : L.length=M.length
 ·obtain ⟨n,hn⟩ : ∃ n,n=L.length:=⟨_,rfl⟩
  rw [← hlen,← hn]
  rw [← hn] at hm
  have HN:=lH hn
  have HN2:=lH (hn.trans hlen)
  clear hn hlen
  go_wp2
  go_loopw [19] (fun i wr=>∃ k : Nat,k≤n∧i=.int .i64 k∧Below w2.heap.size w2 wr∧L.take k=M.take k) (fun i _=>n - (intOf i).toNat)
  case atStart=>exact ⟨0,Nat.zero_le _,rfl,Below.refl _ _,rfl⟩
  case round =>
   obtain ⟨k,hk,rfl,hb,hsame⟩:=hrel
   have HS:=lH hsame
   clear hsame
   by_cases hlt : k<n
   ·have hlt2 : (k : Int)<n:=by omega
    have hkl : k<L.length:=by rw [← HN.out];exact hlt
    have hkm : k<M.length:=by rw [← HN2.out];exact hlt
    rcases HA.out with ⟨e,_⟩ | ⟨b,off,rfl,hat⟩
    ·rw [e] at hkl;cases hkl
    rcases HB.out with ⟨e,_⟩ | ⟨b2,off2,rfl,hat2⟩
    ·rw [e] at hkm;cases hkm
    have hbb:=hat.1
    have hbb2:=hat2.1
    obtain ⟨⟨x1,x2,x3,x4,x5⟩,hx⟩ : ∃ x,L[k]=x:=⟨_,rfl⟩
    obtain ⟨⟨y1,y2,y3,y4,y5⟩,hy⟩ : ∃ x,M[k]=x:=⟨_,rfl⟩
    have hc:=at5 hat k hkl
    have hd:=at5 hat2 k hkm
    rw [hx] at hc
    rw [hy] at hd
    simp only at hc hd
    obtain ⟨p0,p1,p2,p3,p4⟩:=hc
    obtain ⟨s0,s1,s2,s3,s4⟩:=hd
    have hF : ∀ u,Below wr.heap.size wr u→u.cell? ⟨b,off+k*5,none⟩=some (.int .i64 x1)∧u.cell? ⟨b,off+k*5+1,none⟩=some (.int .i64 x2)∧u.cell? ⟨b,off+k*5+2,none⟩=some (.int .i64 x3)∧u.cell? ⟨b,off+k*5+3,none⟩=some (.int .i64 x4)∧u.cell? ⟨b,off+k*5+4,none⟩=some (.int .i64 x5) ∧
      u.cell? ⟨b2,off2+k*5,none⟩=some (.int .i64 y1)∧u.cell? ⟨b2,off2+k*5+1,none⟩=some (.int .i64 y2)∧u.cell? ⟨b2,off2+k*5+2,none⟩=some (.int .i64 y3)∧u.cell? ⟨b2,off2+k*5+3,none⟩=some (.int .i64 y4)∧u.cell? ⟨b2,off2+k*5+4,none⟩=some (.int .i64 y5):=fun u hu=>by
     have hbu:=nx hb hu
     obtain ⟨c1,_⟩:=bcell hbu
     simp only [c1 _ _ hbb,c1 _ _ hbb2]
     exact ⟨p0,p1,p2,p3,p4,s0,s1,s2,s3,s4⟩
    clear p0 p1 p2 p3 p4 s0 s1 s2 s3 s4 hat hat2
    have HX:=lH hx
    have HY:=lH hy
    clear hx hy
    by_cases he : ((x1,x2,x3,x4,x5) : Od)=(y1,y2,y3,y4,y5)
    ·have hq : eqO (x1,x2,x3,x4,x5) (y1,y2,y3,y4,y5)=true:=eqO_iff.2 he
     have HS2 : Hid (L.take (k+1)=M.take (k+1)):=lH (take_eq hkl hkm HS.out (by rw [HX.out,HY.out];exact he))
     clear he
     go_wp2
     refine Rf.rg [0,1,2,3,4,5,6,7,8] ?_
     repeat (first | (refine Rf.Steps.sk ?_;simp only [Act.put,sA,sB,sC]) | (refine Rf.Steps.pu (v:=?_) ?_ ?_;rotate_left;(intro w_ hS_;have hk_:=hF w_ hS_;go_simp<;>with_reducible rfl);simp only [Act.put,sA,sB,sC]))
     refine Rf.Steps.nil (by kernel_rfl) ?_
     intro w4 hb6
     go_wp2
     go_roundw
     case rel=>exact ⟨k+1,by omega,by go_num,nx hb hb6,HS2.out⟩
     case measure=>simp [intOf];omega
    ·have hq : eqO (x1,x2,x3,x4,x5) (y1,y2,y3,y4,y5)=false:=by
      cases e : eqO (x1,x2,x3,x4,x5) (y1,y2,y3,y4,y5)
      ·rfl
      ·exact absurd (eqO_iff.1 e) he
     have HZ : Hid (sameB L M=false):=lH (sameB_no (ne_at hkl hkm (by rw [HX.out,HY.out];exact he)))
     clear he
     go_wp2
     refine Rf.rg [0,1,2,3,4,5,6,7,8] ?_
     repeat (first | (refine Rf.Steps.sk ?_;simp only [Act.put,sA,sB,sC]) | (refine Rf.Steps.pu (v:=?_) ?_ ?_;rotate_left;(intro w_ hS_;have hk_:=hF w_ hS_;go_simp<;>with_reducible rfl);simp only [Act.put,sA,sB,sC]))
     refine Rf.Steps.nil (by kernel_rfl) ?_
     intro w4 hb6
     go_wp2
     go_ret
     exact ⟨ret_bool (HLM.out.trans HZ.out).symm,nx hb0 (nx hb hb6)⟩
   ·obtain rfl : k=n:=by omega
    have HZ : Hid (sameB L M=true):=lH (sameB_yes (by have:=HS.out;rwa [HN.out,List.take_length,← HN.out,HN2.out,List.take_length] at this))
    go_wp2
    go_ret
    exact ⟨ret_bool (HLM.out.trans HZ.out).symm,nx hb0 hb⟩
 ·have HZ : Hid (sameB L M=false):=lH (sameB_no (fun e=>hlen (by rw [e])))
  have hd : ((L.length : Int) != M.length)=true:=by simp;omega
  clear hlen
  go_wp2
  go_ret
  exact ⟨ret_bool (HLM.out.trans HZ.out).symm,hb0⟩
theorem rSameO_is {l m : List Lv} {r : Bool} (H : Hid (sameB (flat l) (flat m)=r)) {B : Bs} {v x : Value} {w : World} (h : LL B l v w) (k : LL B m x w) (hB : B.le w.heap.size) (hm : l.length≤1000) (hf : (flat l).length≤1000) (hm2 : m.length≤1000) (hf2 : (flat m).length≤1000) :
  Calls Tryz.prog 53 #[v,x] w fun e w'=>e=.returned (.bool r)∧Below w.heap.size w w':=by
 rw [← H.out];exact rSameO_any B B l m v x w h k hB hB hm hf hm2 hf2
end Go.Proofs.YtjhocpcpkemcaaaGreat.Le
namespace Go.Proofs.YtjhocpcpkemcaaaGreat.Ex
open Go.RowKit
open Rw
open Da
open Le (LL eL Lv flat)
open La (Ln LN LB cN)
open Ac (Hd Pu HL)
open Se (NL eS Sn Rp)
open Se (ret_bool)
def SameN (l m : Ln) : Prop:=l.1=m.1∧l.2.1=m.2.1∧l.2.2.1.2.2=m.2.2.1.2.2∧flat l.2.2.1.1=flat m.2.2.1.1∧flat l.2.2.1.2.1=flat m.2.2.1.2.1∧l.2.2.2=m.2.2.2
theorem sameB_of {α : Type} {a b : α} (h : sameB a b=true) : a=b:=@of_decide_eq_true _ (Classical.propDecidable _) h
def SameX (x y : Xc) : Prop:=x.free=y.free∧x.inn=y.inn∧x.out=y.out∧x.sess=y.sess∧x.lanes.length=y.lanes.length∧∀ (i : Nat) (l m : Ln),x.lanes[i]?=some l→y.lanes[i]?=some m→SameN l m
noncomputable def sameX (x y : Xc) : Bool:=@decide (SameX x y) (Classical.propDecidable _)
theorem sameX_yes {x y : Xc} (h : SameX x y) : sameX x y=true:=@decide_eq_true _ (Classical.propDecidable _) h
theorem sameX_no {x y : Xc} (h : ¬ SameX x y) : sameX x y=false:=@decide_eq_false _ (Classical.propDecidable _) h
theorem rSameX_any (n : Nat) (x y : Xc) (v u : Value) (w : World) (h : XV n x v w) (k : XV n y u w) (hn : n≤w.heap.size) (hs : SmX x) (ht : SmX y) :
  Calls Tryz.prog 16 #[v,u] w fun e w'=>e=.returned (.bool (sameX x y))∧Below w.heap.size w w':=by
 obtain ⟨_,_,_,_,_,rfl,hd⟩:=h
 obtain ⟨a1,d1,a2,d2,a3,d3,a4,d4,a5,d5,rfl,rfl,rfl,rfl,rfl⟩:=hd.open'
 obtain ⟨_,_,_,_,_,rfl,kd⟩:=k
 obtain ⟨b1,e1,b2,e2,b3,e3,b4,e4,b5,e5,rfl,rfl,rfl,rfl,rfl⟩:=kd.open'
 obtain ⟨V,hV⟩ : ∃ V,V=(w.alloc (.cells #[.slice a1 x.free.length d1,.slice a2 x.lanes.length d2,.slice a3 x.sess.length d3,.slice a4 x.inn.length d4,.slice a5 x.out.length d5] 28)).alloc (.cells #[.slice b1 y.free.length e1,.slice b2 y.lanes.length e2,.slice b3 y.sess.length e3,.slice b4 y.inn.length e4,.slice b5 y.out.length e5] 28):=⟨_,rfl⟩
 have hbV : Below w.heap.size w V:=hV ▸ below2 w _ _
 have x0 : XB n x (.slice a1 x.free.length d1) (.slice a2 x.lanes.length d2) (.slice a3 x.sess.length d3) (.slice a4 x.inn.length d4) (.slice a5 x.out.length d5) w.heap.size V:=by rw [hV];exact (XB.made hd hn).stays (below1 _ _)
 have y0 : XB n y (.slice b1 y.free.length e1) (.slice b2 y.lanes.length e2) (.slice b3 y.sess.length e3) (.slice b4 y.inn.length e4) (.slice b5 y.out.length e5) (w.heap.size+1) V:=by
  have:=XB.made (kd.stays (below1 w (.cells #[.slice a1 x.free.length d1,.slice a2 x.lanes.length d2,.slice a3 x.sess.length d3,.slice a4 x.inn.length d4,.slice a5 x.out.length d5] 28))) (show n≤(w.alloc (.cells #[.slice a1 x.free.length d1,.slice a2 x.lanes.length d2,.slice a3 x.sess.length d3,.slice a4 x.inn.length d4,.slice a5 x.out.length d5] 28)).heap.size by rw [World.size_alloc];omega)
  rw [World.size_alloc] at this
  rw [hV];exact this
 have HK:=lH (show ∀ u,Below V.heap.size V u→XB n x (.slice a1 x.free.length d1) (.slice a2 x.lanes.length d2) (.slice a3 x.sess.length d3) (.slice a4 x.inn.length d4) (.slice a5 x.out.length d5) w.heap.size u∧XB n y (.slice b1 y.free.length e1) (.slice b2 y.lanes.length e2) (.slice b3 y.sess.length e3) (.slice b4 y.inn.length e4) (.slice b5 y.out.length e5) (w.heap.size+1) u from fun u hu=>⟨x0.stays hu,y0.stays hu⟩)
 have HV:=lH hV
 have HBV:=lH hbV
 have m1 : x.free.length≤1000000:=Nat.le_trans hs.free (by decide)
 have m4 : x.inn.length≤1000000:=Nat.le_trans hs.inn (by decide)
 have m5 : x.out.length≤1000000:=Nat.le_trans hs.out (by decide)
 have HS:=lH hs
 have HT:=lH ht
 clear hd kd hV hbV x0 y0 hs ht
 obtain ⟨r1,hr1⟩ : ∃ r,decide (x.free=y.free)=r:=⟨_,rfl⟩
 obtain ⟨r2,hr2⟩ : ∃ r,decide (x.inn=y.inn)=r:=⟨_,rfl⟩
 obtain ⟨r3,hr3⟩ : ∃ r,decide (x.out=y.out)=r:=⟨_,rfl⟩
 have H1:=lH hr1
 have H2:=lH hr2
 have H3:=lH hr3
 clear hr1 hr2 hr3
 obtain ⟨⟨c0,c1,c2,c3,c4⟩,z0,z1,z2,z3,z4⟩ : (V.cell? ⟨w.heap.size,0,none⟩=_∧V.cell? ⟨w.heap.size,1,none⟩=_∧V.cell? ⟨w.heap.size,2,none⟩=_∧V.cell? ⟨w.heap.size,3,none⟩=_∧V.cell? ⟨w.heap.size,4,none⟩=_)∧(V.cell? ⟨w.heap.size+1,0,none⟩=_∧V.cell? ⟨w.heap.size+1,1,none⟩=_∧V.cell? ⟨w.heap.size+1,2,none⟩=_∧V.cell? ⟨w.heap.size+1,3,none⟩=_∧V.cell? ⟨w.heap.size+1,4,none⟩=_):=⟨(HK.out V (Below.refl _ _)).1.cells,(HK.out V (Below.refl _ _)).2.cells⟩
 cases r1
 ·have HZ:=lH (sameX_no (x:=x) (y:=y) fun h=>of_decide_eq_false H1.out h.1)
  go_enter Tryz.func16,Tryz.ntmps16
  go_wp2_with fail
  rw [← HV.out]
  refine (Ac.rHoldings_is H1 (HK.out V (Below.refl _ _)).1.d.free (HK.out V (Below.refl _ _)).2.d.free m1).mono ?_
  rintro e w1 ⟨rfl,hb1⟩
  go_wp2
  go_ret
  exact ⟨ret_bool HZ.out.symm,nx HBV.out hb1⟩
 cases r2
 ·have HZ:=lH (sameX_no (x:=x) (y:=y) fun h=>of_decide_eq_false H2.out h.2.1)
  go_enter Tryz.func16,Tryz.ntmps16
  go_wp2_with fail
  rw [← HV.out]
  clear c0 c1 c2 c3 c4 z0 z1 z2 z3 z4
  refine (Ac.rHoldings_is H1 (HK.out V (Below.refl _ _)).1.d.free (HK.out V (Below.refl _ _)).2.d.free m1).mono ?_
  rintro e w1 ⟨rfl,hc1⟩
  have hb1:=hc1
  have C1 : (w1.cell? ⟨w.heap.size,0,none⟩=_∧_)∧(w1.cell? ⟨w.heap.size+1,0,none⟩=_∧_):=⟨(HK.out w1 hb1).1.cells,(HK.out w1 hb1).2.cells⟩
  obtain ⟨⟨c0,c1,c2,c3,c4⟩,z0,z1,z2,z3,z4⟩:=C1
  go_wp2_with fail
  clear c0 c1 c2 c3 c4 z0 z1 z2 z3 z4
  refine (Ac.rHoldings_is H2 (HK.out w1 hb1).1.d.inn (HK.out w1 hb1).2.d.inn m4).mono ?_
  rintro e w2 ⟨rfl,hc2⟩
  have hb2:=nx hb1 hc2
  have C2 : (w2.cell? ⟨w.heap.size,0,none⟩=_∧_)∧(w2.cell? ⟨w.heap.size+1,0,none⟩=_∧_):=⟨(HK.out w2 hb2).1.cells,(HK.out w2 hb2).2.cells⟩
  obtain ⟨⟨c0,c1,c2,c3,c4⟩,z0,z1,z2,z3,z4⟩:=C2
  go_wp2
  go_ret
  exact ⟨ret_bool HZ.out.symm,nx HBV.out hb2⟩
 cases r3
 ·have HZ:=lH (sameX_no (x:=x) (y:=y) fun h=>of_decide_eq_false H3.out h.2.2.1)
  go_enter Tryz.func16,Tryz.ntmps16
  go_wp2_with fail
  rw [← HV.out]
  clear c0 c1 c2 c3 c4 z0 z1 z2 z3 z4
  refine (Ac.rHoldings_is H1 (HK.out V (Below.refl _ _)).1.d.free (HK.out V (Below.refl _ _)).2.d.free m1).mono ?_
  rintro e w1 ⟨rfl,hc1⟩
  have hb1:=hc1
  have C1 : (w1.cell? ⟨w.heap.size,0,none⟩=_∧_)∧(w1.cell? ⟨w.heap.size+1,0,none⟩=_∧_):=⟨(HK.out w1 hb1).1.cells,(HK.out w1 hb1).2.cells⟩
  obtain ⟨⟨c0,c1,c2,c3,c4⟩,z0,z1,z2,z3,z4⟩:=C1
  go_wp2_with fail
  clear c0 c1 c2 c3 c4 z0 z1 z2 z3 z4
  refine (Ac.rHoldings_is H2 (HK.out w1 hb1).1.d.inn (HK.out w1 hb1).2.d.inn m4).mono ?_
  rintro e w2 ⟨rfl,hc2⟩
  have hb2:=nx hb1 hc2
  have C2 : (w2.cell? ⟨w.heap.size,0,none⟩=_∧_)∧(w2.cell? ⟨w.heap.size+1,0,none⟩=_∧_):=⟨(HK.out w2 hb2).1.cells,(HK.out w2 hb2).2.cells⟩
  obtain ⟨⟨c0,c1,c2,c3,c4⟩,z0,z1,z2,z3,z4⟩:=C2
  go_wp2_with fail
  clear c0 c1 c2 c3 c4 z0 z1 z2 z3 z4
  refine (Ac.rHoldings_is H3 (HK.out w2 hb2).1.d.out (HK.out w2 hb2).2.d.out m5).mono ?_
  rintro e w3 ⟨rfl,hc3⟩
  have hb3:=nx hb2 hc3
  have C3 : (w3.cell? ⟨w.heap.size,0,none⟩=_∧_)∧(w3.cell? ⟨w.heap.size+1,0,none⟩=_∧_):=⟨(HK.out w3 hb3).1.cells,(HK.out w3 hb3).2.cells⟩
  obtain ⟨⟨c0,c1,c2,c3,c4⟩,z0,z1,z2,z3,z4⟩:=C3
  go_wp2
  go_ret
  exact ⟨ret_bool HZ.out.symm,nx HBV.out hb3⟩
 by_cases h4 : x.sess.length=y.sess.length
 ·have hn4 : ((x.sess.length : Int) != (y.sess.length : Int))=false:=by rw [bne_eq_false_iff_eq];exact_mod_cast h4
  by_cases h5 : x.lanes.length=y.lanes.length
  ·have hn5 : ((x.lanes.length : Int) != (y.lanes.length : Int))=false:=by rw [bne_eq_false_iff_eq];exact_mod_cast h5
   have H4:=lH h4
   have H5:=lH h5
   clear h4 h5
   go_enter Tryz.func16,Tryz.ntmps16
   go_wp2_with fail
   rw [← HV.out]
   clear c0 c1 c2 c3 c4 z0 z1 z2 z3 z4
   refine (Ac.rHoldings_is H1 (HK.out V (Below.refl _ _)).1.d.free (HK.out V (Below.refl _ _)).2.d.free m1).mono ?_
   rintro e w1 ⟨rfl,hc1⟩
   have hb1:=hc1
   have C1 : (w1.cell? ⟨w.heap.size,0,none⟩=_∧_)∧(w1.cell? ⟨w.heap.size+1,0,none⟩=_∧_):=⟨(HK.out w1 hb1).1.cells,(HK.out w1 hb1).2.cells⟩
   obtain ⟨⟨c0,c1,c2,c3,c4⟩,z0,z1,z2,z3,z4⟩:=C1
   go_wp2_with fail
   clear c0 c1 c2 c3 c4 z0 z1 z2 z3 z4
   refine (Ac.rHoldings_is H2 (HK.out w1 hb1).1.d.inn (HK.out w1 hb1).2.d.inn m4).mono ?_
   rintro e w2 ⟨rfl,hc2⟩
   have hb2:=nx hb1 hc2
   have C2 : (w2.cell? ⟨w.heap.size,0,none⟩=_∧_)∧(w2.cell? ⟨w.heap.size+1,0,none⟩=_∧_):=⟨(HK.out w2 hb2).1.cells,(HK.out w2 hb2).2.cells⟩
   obtain ⟨⟨c0,c1,c2,c3,c4⟩,z0,z1,z2,z3,z4⟩:=C2
   go_wp2_with fail
   clear c0 c1 c2 c3 c4 z0 z1 z2 z3 z4
   refine (Ac.rHoldings_is H3 (HK.out w2 hb2).1.d.out (HK.out w2 hb2).2.d.out m5).mono ?_
   rintro e w3 ⟨rfl,hc3⟩
   have hb3:=nx hb2 hc3
   have C3 : (w3.cell? ⟨w.heap.size,0,none⟩=_∧_)∧(w3.cell? ⟨w.heap.size+1,0,none⟩=_∧_):=⟨(HK.out w3 hb3).1.cells,(HK.out w3 hb3).2.cells⟩
   obtain ⟨⟨c0,c1,c2,c3,c4⟩,z0,z1,z2,z3,z4⟩:=C3
   go_wp2
   have HW3:=lH (nx HBV.out hb3)
   have B3:=lH hb3
   have HN:=lH (show x.sess.length≤1000 from HS.out.sess)
   clear c0 c1 c2 c3 c4 z0 z1 z2 z3 z4 hb3 hc1 hc2 hc3 hb1 hb2 hn4
   go_loopw [52] (fun i wr=>∃ k : Nat,k≤x.sess.length∧i=.int .i64 k∧Below w3.heap.size w3 wr∧x.sess.take k=y.sess.take k) (fun i _=>x.sess.length - (intOf i).toNat)
   case atStart=>exact ⟨0,Nat.zero_le _,rfl,Below.refl _ _,rfl⟩
   case round =>
    obtain ⟨k,hk,rfl,hb,hsame⟩:=hrel
    have HSm:=lH hsame
    have HNo:=HN.out
    clear hsame
    by_cases hlt : k<x.sess.length
    ·have hlt2 : (k : Int)<x.sess.length:=by omega
     have hlt3 : (k : Int)<y.sess.length:=by rw [← H4.out];omega
     have hkm : k<y.sess.length:=by rw [← H4.out];exact hlt
     have hbr:=nx B3.out hb
     have C:=HK.out wr hbr
     obtain ⟨_,_,c2,_,_⟩:=C.1.cells
     obtain ⟨_,_,z2,_,_⟩:=C.2.cells
     have hA:=C.1.d.sess
     have hB:=C.2.d.sess
     obtain ⟨_,_,ea,ha⟩:=hA
     obtain ⟨_,_,eb,hb'⟩:=hB
     simp only [Value.slice.injEq] at ea eb
     obtain ⟨rfl,_,rfl⟩:=ea
     obtain ⟨rfl,_,rfl⟩:=eb
     rcases ha with ⟨e,_⟩ | ⟨ba,oa,rfl,hat⟩
     ·rw [e] at hlt;cases hlt
     rcases hb' with ⟨e,_⟩ | ⟨bb,ob,rfl,hat2⟩
     ·rw [e] at hkm;cases hkm
     have l1:=hat.1
     have l2:=hat2.1
     obtain ⟨⟨x1,x2,x3,x4,x5,x6,x7⟩,hx⟩ : ∃ t,x.sess[k]=t:=⟨_,rfl⟩
     obtain ⟨⟨y1,y2,y3,y4,y5,y6,y7⟩,hy⟩ : ∃ t,y.sess[k]=t:=⟨_,rfl⟩
     have hc:=Se.at7 hat k hlt
     have hd:=Se.at7 hat2 k hkm
     rw [hx] at hc
     rw [hy] at hd
     simp only at hc hd
     obtain ⟨p0,p1,p2,p3,p4,p5,p6⟩:=hc
     obtain ⟨s0,s1,s2,s3,s4,s5,s6⟩:=hd
     have HX:=lH hx
     have HY:=lH hy
     clear hx hy hat hat2 C
     cases he : Se.eqS (x1,x2,x3,x4,x5,x6,x7) (y1,y2,y3,y4,y5,y6,y7)
     ·have HZ:=lH (sameX_no (x:=x) (y:=y) fun h=>by
       have h1 : x.sess[k]=y.sess[k]:=by congr 1;exact h.2.2.2.1
       rw [HX.out,HY.out] at h1
       rw [Se.eqS_iff.2 h1] at he;cases he)
      go_wp2
      go_quiet (fail)
      go_wp2
      go_ret
      exact ⟨ret_bool HZ.out.symm,nx HW3.out (below_drewN hb _)⟩
     ·have HT2:=lH (show x.sess.take (k+1)=y.sess.take (k+1) by rw [Da.take_snoc hlt,Da.take_snoc hkm,HSm.out,HX.out,HY.out,Se.eqS_iff.1 he])
      go_wp2
      go_quiet (fail)
      go_wp2
      go_roundw
      case rel=>exact ⟨k+1,by omega,by go_num,below_drewN hb _,HT2.out⟩
      case measure=>simp [intOf];omega
    ·obtain rfl : k=x.sess.length:=by omega
     have HSS:=lH (show x.sess=y.sess by have:=HSm.out;rwa [List.take_length,H4.out,List.take_length] at this)
     have hbr:=nx B3.out hb
     have C:=HK.out wr hbr
     obtain ⟨_,c1,_,_,_⟩:=C.1.cells
     obtain ⟨_,z1,_,_,_⟩:=C.2.cells
     clear C HSm
     have B4:=lH hbr
     clear hbr hb
     go_wp2
     rename World=>W4
     have HNl:=lH HS.out.lanes
     have H34:=lH (nx HBV.out B4.out)
     clear c1 z1
     go_loopw [70] (fun i wr=>∃ k : Nat,k≤x.lanes.length∧i=.int .i64 k∧Below W4.heap.size W4 wr∧∀ (j : Nat) (l m : Ln),j<k→x.lanes[j]?=some l→y.lanes[j]?=some m→SameN l m) (fun i _=>x.lanes.length - (intOf i).toNat)
     case atStart=>exact ⟨0,Nat.zero_le _,rfl,Below.refl _ _,fun j l m hj=>absurd hj (Nat.not_lt_zero _)⟩
     case round =>
      obtain ⟨k,hk,rfl,hb,hsame⟩:=hrel
      have HSm:=lH hsame
      have HNo:=HNl.out
      clear hsame
      by_cases hlt : k<x.lanes.length
      ·have hlt2 : (k : Int)<x.lanes.length:=by omega
       have hlt3 : (k : Int)<y.lanes.length:=by rw [← H5.out];omega
       have hkm : k<y.lanes.length:=by rw [← H5.out];exact hlt
       have hbr:=nx B4.out hb
       have C:=HK.out wr hbr
       obtain ⟨_,c1,_,_,_⟩:=C.1.cells
       obtain ⟨_,z1,_,_,_⟩:=C.2.cells
       have hA:=C.1.d.lanes
       have hB:=C.2.d.lanes
       obtain ⟨_,_,ea,ha⟩:=hA
       obtain ⟨_,_,eb,hb'⟩:=hB
       simp only [Value.slice.injEq] at ea eb
       obtain ⟨rfl,_,rfl⟩:=ea
       obtain ⟨rfl,_,rfl⟩:=eb
       rcases ha with ⟨e,_⟩ | ⟨ba,oa,rfl,hat⟩
       ·rw [e] at hlt;cases hlt
       rcases hb' with ⟨e,_⟩ | ⟨bb,ob,rfl,hat2⟩
       ·rw [e] at hkm;cases hkm
       have o1:=hat.1
       have o2:=hat2.1
       have hsl:=HS.out.lane _ (List.getElem_mem hlt)
       have hsm:=HT.out.lane _ (List.getElem_mem hkm)
       obtain ⟨p1,n1,f1,p2,n2,f2,p3,n3,f3,L1,t0,t1,t2,t3,t4,t5⟩:=atN hat k hlt
       obtain ⟨q1,i1,g1,q2,i2,g2,q3,i3,g3,M1,s0,s1,s2,s3,s4,s5⟩:=atN hat2 k hkm
       obtain ⟨l,hl⟩ : ∃ l,x.lanes[k]=l:=⟨_,rfl⟩
       obtain ⟨m,hm⟩ : ∃ l,y.lanes[k]=l:=⟨_,rfl⟩
       rw [hl] at L1 t0 t1 t4 hsl
       rw [hm] at M1 s0 s1 s4 hsm
       have HLx:=lH (show x.lanes[k]?=some l by rw [List.getElem?_eq_getElem hlt,hl])
       have HMy:=lH (show y.lanes[k]?=some m by rw [List.getElem?_eq_getElem hkm,hm])
       have HHB:=lH hb
       have hzz : w.heap.size+1<wr.heap.size:=C.2.lt
       have hz0 : w.heap.size<wr.heap.size:=by omega
       clear hl hm hat hat2 C hb hbr
       by_cases v1 : l.1=m.1
       rotate_left
       ·have dd : (l.1 != m.1)=true:=by simpa using v1
        have HZ:=lH (sameX_no (x:=x) (y:=y) fun h=>v1 (h.2.2.2.2.2 k l m HLx.out HMy.out).1)
        clear v1
        go_wp2
        go_ret
        exact ⟨ret_bool HZ.out.symm,nx H34.out (nx HHB.out (below2 _ _ _))⟩
       have dd1 : (l.1 != m.1)=false:=by simpa using v1
       by_cases v2 : l.2.1=m.2.1
       rotate_left
       ·have dd : (l.2.1 != m.2.1)=true:=by simpa using v2
        have HZ:=lH (sameX_no (x:=x) (y:=y) fun h=>v2 (h.2.2.2.2.2 k l m HLx.out HMy.out).2.1)
        clear v2
        go_wp2
        go_ret
        exact ⟨ret_bool HZ.out.symm,nx H34.out (nx HHB.out (below2 _ _ _))⟩
       have dd2 : (l.2.1 != m.2.1)=false:=by simpa using v2
       by_cases v3 : l.2.2.1.2.2=m.2.2.1.2.2
       rotate_left
       ·have dd : (l.2.2.1.2.2 != m.2.2.1.2.2)=true:=by simpa using v3
        have HZ:=lH (sameX_no (x:=x) (y:=y) fun h=>v3 (h.2.2.2.2.2 k l m HLx.out HMy.out).2.2.1)
        clear v3
        go_wp2
        go_ret
        exact ⟨ret_bool HZ.out.symm,nx H34.out (nx HHB.out (below2 _ _ _))⟩
       have dd3 : (l.2.2.1.2.2 != m.2.2.1.2.2)=false:=by simpa using v3
       have V1:=lH v1
       have V2:=lH v2
       have V3:=lH v3
       clear v1 v2 v3
       obtain ⟨_,_,_,eL1,L2,L3,L4⟩:=L1
       have eL1:=congrArg Value.cells eL1
       simp only [Value.cells,cN,Array.mk.injEq,List.cons.injEq,and_true,true_and] at eL1
       obtain ⟨rfl,rfl,rfl⟩:=eL1
       obtain ⟨_,_,_,eM1,M2,M3,M4⟩:=M1
       have eM1:=congrArg Value.cells eM1
       simp only [Value.cells,cN,Array.mk.injEq,List.cons.injEq,and_true,true_and] at eM1
       obtain ⟨rfl,rfl,rfl⟩:=eM1
       obtain ⟨X,hX⟩ : ∃ X,X=(wr.alloc (.cells #[.int .i64 l.1,.int .i64 l.2.1,.slice p1 n1 f1,.slice p2 n2 f2,.int .i64 l.2.2.1.2.2,.slice p3 n3 f3] 59)).alloc (.cells #[.int .i64 m.1,.int .i64 m.2.1,.slice q1 i1 g1,.slice q2 i2 g2,.int .i64 m.2.2.1.2.2,.slice q3 i3 g3] 59):=⟨_,rfl⟩
       have hbX : Below wr.heap.size wr X:=hX ▸ below2 wr _ _
       have hzX : X.heap.size=wr.heap.size+2:=by rw [hX];simp
       have hX0 : X.heap[wr.heap.size]?=some (.cells #[.int .i64 l.1,.int .i64 l.2.1,.slice p1 n1 f1,.slice p2 n2 f2,.int .i64 l.2.2.1.2.2,.slice p3 n3 f3] 59 (0,0)):=by rw [hX];exact ((below1 _ _).block _ (by rw [World.size_alloc];omega)).trans (heap_alloc_new _ _)
       have hX1 : X.heap[wr.heap.size+1]?=some (.cells #[.int .i64 m.1,.int .i64 m.2.1,.slice q1 i1 g1,.slice q2 i2 g2,.int .i64 m.2.2.1.2.2,.slice q3 i3 g3] 59 (0,0)):=by
        have:=heap_alloc_new (wr.alloc (.cells #[.int .i64 l.1,.int .i64 l.2.1,.slice p1 n1 f1,.slice p2 n2 f2,.int .i64 l.2.2.1.2.2,.slice p3 n3 f3] 59)) (.cells #[.int .i64 m.1,.int .i64 m.2.1,.slice q1 i1 g1,.slice q2 i2 g2,.int .i64 m.2.2.1.2.2,.slice q3 i3 g3] 59)
        rw [World.size_alloc] at this
        rw [hX];exact this
       have HXK:=lH (show ∀ u,Below X.heap.size X u→(u.cell? ⟨wr.heap.size,3,none⟩=some (.slice p2 n2 f2)∧u.cell? ⟨wr.heap.size+1,3,none⟩=some (.slice q2 i2 g2)∧u.cell? ⟨wr.heap.size,5,none⟩=some (.slice p3 n3 f3)∧u.cell? ⟨wr.heap.size+1,5,none⟩=some (.slice q3 i3 g3))∧(LL (Bs.of n) l.2.2.1.1 (.slice p1 n1 f1) u∧LL (Bs.of n) m.2.2.1.1 (.slice q1 i1 g1) u)∧(LL (Bs.of n) l.2.2.1.2.1 (.slice p2 n2 f2) u∧LL (Bs.of n) m.2.2.1.2.1 (.slice q2 i2 g2) u)∧(HL n l.2.2.2 (.slice p3 n3 f3) u∧HL n m.2.2.2 (.slice q3 i3 g3) u)∧Below wr.heap.size wr u∧(Bs.of n).le u.heap.size from fun u hu=>by
        have h0:=(hu.block _ (by omega)).trans hX0
        have h1:=(hu.block _ (by omega)).trans hX1
        have hbu:=nx hbX hu
        refine ⟨⟨?_,?_,?_,?_⟩,⟨Is.stays eL 106 L2 hbu,Is.stays eL 106 M2 hbu⟩,⟨Is.stays eL 106 L3 hbu,Is.stays eL 106 M3 hbu⟩,⟨La.hl_stays L4 hbu,La.hl_stays M4 hbu⟩,hbu,⟨show n≤u.heap.size by have:=hbu.size;omega,fun _ h=>h.elim⟩⟩
        ·simp [World.cell?,h0]
        ·simp [World.cell?,h1]
        ·simp [World.cell?,h0]
        ·simp [World.cell?,h1])
       have HXe:=lH hX
       have HSL:=lH hsl
       have HSM:=lH hsm
       clear hX hX0 hX1 hzX hbX L2 L3 L4 M2 M3 M4 hsl hsm
       obtain ⟨r4,hr4⟩ : ∃ r,sameB (flat l.2.2.1.1) (flat m.2.2.1.1)=r:=⟨_,rfl⟩
       obtain ⟨r5,hr5⟩ : ∃ r,sameB (flat l.2.2.1.2.1) (flat m.2.2.1.2.1)=r:=⟨_,rfl⟩
       obtain ⟨r6,hr6⟩ : ∃ r,decide (l.2.2.2=m.2.2.2)=r:=⟨_,rfl⟩
       have R4:=lH hr4
       have R5:=lH hr5
       have R6:=lH hr6
       clear hr4 hr5 hr6
       cases r4
       ·have HZ:=lH (sameX_no (x:=x) (y:=y) fun h=>by
         have hh:=R4.out
         rw [sameB_yes (h.2.2.2.2.2 k l m HLx.out HMy.out).2.2.2.1] at hh;cases hh)
        go_wp2_with fail
        rw [← HXe.out]
        refine (Le.rSameO_is R4 (HXK.out X (Below.refl _ _)).2.1.1 (HXK.out X (Below.refl _ _)).2.1.2 (HXK.out X (Below.refl _ _)).2.2.2.2.2 HSL.out.m1 HSL.out.m2 HSM.out.m1 HSM.out.m2).mono ?_
        rintro e w5 ⟨rfl,hc5⟩
        have hb5:=hc5
        obtain ⟨y0,y1,y2,y3⟩:=(HXK.out w5 hb5).1
        go_wp2
        go_ret
        exact ⟨ret_bool HZ.out.symm,nx H34.out (nx HHB.out (HXK.out w5 hb5).2.2.2.2.1)⟩
       cases r5
       ·have HZ:=lH (sameX_no (x:=x) (y:=y) fun h=>by
         have hh:=R5.out
         rw [sameB_yes (h.2.2.2.2.2 k l m HLx.out HMy.out).2.2.2.2.1] at hh;cases hh)
        go_wp2_with fail
        rw [← HXe.out]
        refine (Le.rSameO_is R4 (HXK.out X (Below.refl _ _)).2.1.1 (HXK.out X (Below.refl _ _)).2.1.2 (HXK.out X (Below.refl _ _)).2.2.2.2.2 HSL.out.m1 HSL.out.m2 HSM.out.m1 HSM.out.m2).mono ?_
        rintro e w5 ⟨rfl,hc5⟩
        have hb5:=hc5
        obtain ⟨y0,y1,y2,y3⟩:=(HXK.out w5 hb5).1
        go_wp2_with fail
        clear y0 y1 y2 y3
        refine (Le.rSameO_is R5 (HXK.out w5 hb5).2.2.1.1 (HXK.out w5 hb5).2.2.1.2 (HXK.out w5 hb5).2.2.2.2.2 HSL.out.m3 HSL.out.m4 HSM.out.m3 HSM.out.m4).mono ?_
        rintro e w6 ⟨rfl,hc6⟩
        have hb6:=nx hb5 hc6
        obtain ⟨y0,y1,y2,y3⟩:=(HXK.out w6 hb6).1
        go_wp2
        go_ret
        exact ⟨ret_bool HZ.out.symm,nx H34.out (nx HHB.out (HXK.out w6 hb6).2.2.2.2.1)⟩
       cases r6
       ·have HZ:=lH (sameX_no (x:=x) (y:=y) fun h=>of_decide_eq_false R6.out (h.2.2.2.2.2 k l m HLx.out HMy.out).2.2.2.2.2)
        go_wp2_with fail
        rw [← HXe.out]
        refine (Le.rSameO_is R4 (HXK.out X (Below.refl _ _)).2.1.1 (HXK.out X (Below.refl _ _)).2.1.2 (HXK.out X (Below.refl _ _)).2.2.2.2.2 HSL.out.m1 HSL.out.m2 HSM.out.m1 HSM.out.m2).mono ?_
        rintro e w5 ⟨rfl,hc5⟩
        have hb5:=hc5
        obtain ⟨y0,y1,y2,y3⟩:=(HXK.out w5 hb5).1
        go_wp2_with fail
        clear y0 y1 y2 y3
        refine (Le.rSameO_is R5 (HXK.out w5 hb5).2.2.1.1 (HXK.out w5 hb5).2.2.1.2 (HXK.out w5 hb5).2.2.2.2.2 HSL.out.m3 HSL.out.m4 HSM.out.m3 HSM.out.m4).mono ?_
        rintro e w6 ⟨rfl,hc6⟩
        have hb6:=nx hb5 hc6
        obtain ⟨y0,y1,y2,y3⟩:=(HXK.out w6 hb6).1
        go_wp2_with fail
        clear y0 y1 y2 y3
        refine (Ac.rHoldings_is R6 (HXK.out w6 hb6).2.2.2.1.1 (HXK.out w6 hb6).2.2.2.1.2 (Nat.le_trans HSL.out.m5 (by decide))).mono ?_
        rintro e w7 ⟨rfl,hc7⟩
        have hb7:=nx hb6 hc7
        obtain ⟨y0,y1,y2,y3⟩:=(HXK.out w7 hb7).1
        go_wp2
        go_ret
        exact ⟨ret_bool HZ.out.symm,nx H34.out (nx HHB.out (HXK.out w7 hb7).2.2.2.2.1)⟩
       have HNx:=lH (show ∀ (j : Nat) (l m : Ln),j<k+1→x.lanes[j]?=some l→y.lanes[j]?=some m→SameN l m from fun j l' m' hj h1 h2=>by
        rcases Nat.lt_or_ge j k with h | h
        ·exact HSm.out j l' m' h h1 h2
        ·obtain rfl : j=k:=by omega
         rw [HLx.out] at h1
         rw [HMy.out] at h2
         obtain rfl:=Option.some.inj h1
         obtain rfl:=Option.some.inj h2
         exact ⟨V1.out,V2.out,V3.out,sameB_of R4.out,sameB_of R5.out,of_decide_eq_true R6.out⟩)
       go_wp2_with fail
       rw [← HXe.out]
       refine (Le.rSameO_is R4 (HXK.out X (Below.refl _ _)).2.1.1 (HXK.out X (Below.refl _ _)).2.1.2 (HXK.out X (Below.refl _ _)).2.2.2.2.2 HSL.out.m1 HSL.out.m2 HSM.out.m1 HSM.out.m2).mono ?_
       rintro e w5 ⟨rfl,hc5⟩
       have hb5:=hc5
       obtain ⟨y0,y1,y2,y3⟩:=(HXK.out w5 hb5).1
       go_wp2_with fail
       clear y0 y1 y2 y3
       refine (Le.rSameO_is R5 (HXK.out w5 hb5).2.2.1.1 (HXK.out w5 hb5).2.2.1.2 (HXK.out w5 hb5).2.2.2.2.2 HSL.out.m3 HSL.out.m4 HSM.out.m3 HSM.out.m4).mono ?_
       rintro e w6 ⟨rfl,hc6⟩
       have hb6:=nx hb5 hc6
       obtain ⟨y0,y1,y2,y3⟩:=(HXK.out w6 hb6).1
       go_wp2_with fail
       clear y0 y1 y2 y3
       refine (Ac.rHoldings_is R6 (HXK.out w6 hb6).2.2.2.1.1 (HXK.out w6 hb6).2.2.2.1.2 (Nat.le_trans HSL.out.m5 (by decide))).mono ?_
       rintro e w7 ⟨rfl,hc7⟩
       have hb7:=nx hb6 hc7
       obtain ⟨y0,y1,y2,y3⟩:=(HXK.out w7 hb7).1
       go_wp2
       go_roundw
       case rel=>exact ⟨k+1,by omega,by go_num,nx HHB.out (HXK.out w7 hb7).2.2.2.2.1,HNx.out⟩
       case measure=>simp [intOf];omega
      ·obtain rfl : k=x.lanes.length:=by omega
       have HZ:=lH (sameX_yes (x:=x) (y:=y) ⟨of_decide_eq_true H1.out,of_decide_eq_true H2.out,of_decide_eq_true H3.out,HSS.out,H5.out,fun j l m hl hm=>HSm.out j l m ((List.getElem?_eq_some_iff.1 hl).1) hl hm⟩)
       go_wp2
       go_ret
       exact ⟨ret_bool HZ.out.symm,nx H34.out hb⟩
  ·have hne : ((x.lanes.length : Int) != (y.lanes.length : Int))=true:=by rw [bne_iff_ne];exact fun e=>h5 (by exact_mod_cast e)
   have HZ:=lH (sameX_no (x:=x) (y:=y) fun h=>h5 h.2.2.2.2.1)
   clear h4 h5
   go_enter Tryz.func16,Tryz.ntmps16
   go_wp2_with fail
   rw [← HV.out]
   clear c0 c1 c2 c3 c4 z0 z1 z2 z3 z4
   refine (Ac.rHoldings_is H1 (HK.out V (Below.refl _ _)).1.d.free (HK.out V (Below.refl _ _)).2.d.free m1).mono ?_
   rintro e w1 ⟨rfl,hc1⟩
   have hb1:=hc1
   have C1 : (w1.cell? ⟨w.heap.size,0,none⟩=_∧_)∧(w1.cell? ⟨w.heap.size+1,0,none⟩=_∧_):=⟨(HK.out w1 hb1).1.cells,(HK.out w1 hb1).2.cells⟩
   obtain ⟨⟨c0,c1,c2,c3,c4⟩,z0,z1,z2,z3,z4⟩:=C1
   go_wp2_with fail
   clear c0 c1 c2 c3 c4 z0 z1 z2 z3 z4
   refine (Ac.rHoldings_is H2 (HK.out w1 hb1).1.d.inn (HK.out w1 hb1).2.d.inn m4).mono ?_
   rintro e w2 ⟨rfl,hc2⟩
   have hb2:=nx hb1 hc2
   have C2 : (w2.cell? ⟨w.heap.size,0,none⟩=_∧_)∧(w2.cell? ⟨w.heap.size+1,0,none⟩=_∧_):=⟨(HK.out w2 hb2).1.cells,(HK.out w2 hb2).2.cells⟩
   obtain ⟨⟨c0,c1,c2,c3,c4⟩,z0,z1,z2,z3,z4⟩:=C2
   go_wp2_with fail
   clear c0 c1 c2 c3 c4 z0 z1 z2 z3 z4
   refine (Ac.rHoldings_is H3 (HK.out w2 hb2).1.d.out (HK.out w2 hb2).2.d.out m5).mono ?_
   rintro e w3 ⟨rfl,hc3⟩
   have hb3:=nx hb2 hc3
   have C3 : (w3.cell? ⟨w.heap.size,0,none⟩=_∧_)∧(w3.cell? ⟨w.heap.size+1,0,none⟩=_∧_):=⟨(HK.out w3 hb3).1.cells,(HK.out w3 hb3).2.cells⟩
   obtain ⟨⟨c0,c1,c2,c3,c4⟩,z0,z1,z2,z3,z4⟩:=C3
   go_wp2
   go_ret
   exact ⟨ret_bool HZ.out.symm,nx HBV.out hb3⟩
 ·have hne : ((x.sess.length : Int) != (y.sess.length : Int))=true:=by rw [bne_iff_ne];exact fun e=>h4 (by exact_mod_cast e)
  have HZ:=lH (sameX_no (x:=x) (y:=y) fun h=>h4 (by rw [h.2.2.2.1]))
  clear h4
  go_enter Tryz.func16,Tryz.ntmps16
  go_wp2_with fail
  rw [← HV.out]
  clear c0 c1 c2 c3 c4 z0 z1 z2 z3 z4
  refine (Ac.rHoldings_is H1 (HK.out V (Below.refl _ _)).1.d.free (HK.out V (Below.refl _ _)).2.d.free m1).mono ?_
  rintro e w1 ⟨rfl,hc1⟩
  have hb1:=hc1
  have C1 : (w1.cell? ⟨w.heap.size,0,none⟩=_∧_)∧(w1.cell? ⟨w.heap.size+1,0,none⟩=_∧_):=⟨(HK.out w1 hb1).1.cells,(HK.out w1 hb1).2.cells⟩
  obtain ⟨⟨c0,c1,c2,c3,c4⟩,z0,z1,z2,z3,z4⟩:=C1
  go_wp2_with fail
  clear c0 c1 c2 c3 c4 z0 z1 z2 z3 z4
  refine (Ac.rHoldings_is H2 (HK.out w1 hb1).1.d.inn (HK.out w1 hb1).2.d.inn m4).mono ?_
  rintro e w2 ⟨rfl,hc2⟩
  have hb2:=nx hb1 hc2
  have C2 : (w2.cell? ⟨w.heap.size,0,none⟩=_∧_)∧(w2.cell? ⟨w.heap.size+1,0,none⟩=_∧_):=⟨(HK.out w2 hb2).1.cells,(HK.out w2 hb2).2.cells⟩
  obtain ⟨⟨c0,c1,c2,c3,c4⟩,z0,z1,z2,z3,z4⟩:=C2
  go_wp2_with fail
  clear c0 c1 c2 c3 c4 z0 z1 z2 z3 z4
  refine (Ac.rHoldings_is H3 (HK.out w2 hb2).1.d.out (HK.out w2 hb2).2.d.out m5).mono ?_
  rintro e w3 ⟨rfl,hc3⟩
  have hb3:=nx hb2 hc3
  have C3 : (w3.cell? ⟨w.heap.size,0,none⟩=_∧_)∧(w3.cell? ⟨w.heap.size+1,0,none⟩=_∧_):=⟨(HK.out w3 hb3).1.cells,(HK.out w3 hb3).2.cells⟩
  obtain ⟨⟨c0,c1,c2,c3,c4⟩,z0,z1,z2,z3,z4⟩:=C3
  go_wp2
  go_ret
  exact ⟨ret_bool HZ.out.symm,nx HBV.out hb3⟩
end Go.Proofs.YtjhocpcpkemcaaaGreat.Ex
