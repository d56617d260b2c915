/- Of the statements of layer 10: step. -/
import Derived.Test.YthecinmekoaphaaGreatQbZZ
import Derived.Test.YthecinmekoaphaaGreatQbBX
import Derived.Test.YthecinmekoaphaaGreatQbAF
import Derived.Deep.Slices
import Derived.Deep.Fields
import Derived.ChangeSame
import Derived.OpenShut
import Derived.RegionTactic
set_option linter.unusedVariables false
set_option maxRecDepth 16000
set_option maxHeartbeats 32000000
namespace Go.Proofs.YthecinmekoaphaaGreat.La
open Go.RowKit
open Rw
open Da
open Le
open Bk
open Ac (Hd Pu HL pmay pmay_iff tot total giveE giveL takeE takeL)
def PostSt (B : Bs) (c : Ln × List Hd × Int) (w : World) (e : Ending) (w' : World) : Prop :=
 ∃ a1 n1 c1 a2 n2 c2 a3 n3 c3 a4 n4 c4,e=.returned (.tuple #[.agg (cN c.1.1 c.1.2.1 (.slice a1 n1 c1) (.slice a2 n2 c2) c.1.2.2.1.2.2 (.slice a3 n3 c3)),.slice a4 n4 c4,.int .i64 c.2.2])∧Below w.heap.size w w' ∧
  LN B c.1 (.agg (cN c.1.1 c.1.2.1 (.slice a1 n1 c1) (.slice a2 n2 c2) c.1.2.2.1.2.2 (.slice a3 n3 c3))) w'∧HL B.lo c.2.1 (.slice a4 n4 c4) w'
theorem ret_N3 {fn : Func} {p q r : Tmp} (h : fn.results=#[.cell p 28,.tmp q,.tmp r]) (tmps : Array Value) (w : World) {cs : Array Value} (hs : cs.size=6) (hr : rowOf w (tmps.getD p undef)=cs) : (results fn tmps).run Tryz.prog w=.ok (.tuple #[.agg cs,tmps.getD q undef,tmps.getD r undef]) w:=by
 obtain ⟨b,e,hl⟩:=read_cell (P:=Tryz.prog) (T:=28) (n:=5) Tryz.underlying28 rfl (by kernel_rfl) hr hs
 have hp' : tmps[p]?.getD undef=.pointer (some ⟨b,0,none⟩):=by simpa using e
 simp [results,h,hp',asAddr,hl]
theorem fin_st {B : Bs} {m : Ln} {fr : List Hd} {x y o f : Value} {s t : Nat} {w X : World} {c0 : Array Value} (hx : LB B m x y o s X) (hg : X.heap[t]?=some (.cells c0 28 (0,0))) (hf : HL B.lo fr f X) (hb : Below w.heap.size w X) (hw : w.heap.size≤t:=by omega) (ht : B.lo≤t:=by omega) :
  Below w.heap.size w (X.setRow t (cN m.1 m.2.1 x y m.2.2.1.2.2 o))∧LN B m (.agg (cN m.1 m.2.1 x y m.2.2.1.2.2 o)) (X.setRow t (cN m.1 m.2.1 x y m.2.2.1.2.2 o))∧HL B.lo fr f (X.setRow t (cN m.1 m.2.1 x y m.2.2.1.2.2 o)) :=
 ⟨below_setRow hb hw _,(LB.put hg ht hx.l1 hx.l2 hx.l3).ln,hl_keep hf (keeps_setRow _ hg (by decide) ht)⟩
theorem step_any (B : Bs) (l : Ln) (fr : List Hd) (v fv : Value) (o1 o2 o3 o4 o5 : Int) (w : World) (h : LN B l v w) (hf : HL B.lo fr fv w) (hB : B.le w.heap.size) (hs : Sm l) (hm : fr.length≤1000) :
  Calls Tryz.prog 26 #[v,fv,.agg #[.int .i64 o1,.int .i64 o2,.int .i64 o3,.int .i64 o4,.int .i64 o5]] w (PostSt B (stepN l fr (o1,o2,o3,o4,o5)) w):=by
 obtain ⟨a1,n1,c1,a2,n2,c2,a3,n3,c3,rfl,-,-,-,hk1,hk2,hk3⟩:=h.open'
 obtain ⟨lb,lq,⟨bu,se,nn⟩,od⟩:=l
 simp only at hk1 hk2 hk3
 have hlo:=hB.1
 obtain ⟨U1,hU1⟩ : ∃ U,U=w.alloc (.cells (cN lb lq (.slice a1 n1 c1) (.slice a2 n2 c2) nn (.slice a3 n3 c3)) 28):=⟨_,rfl⟩
 have hz1 : U1.heap.size=w.heap.size+1:=by rw [hU1];simp
 have hx1 : LB B (lb,lq,(bu,se,nn),od) (.slice a1 n1 c1) (.slice a2 n2 c2) (.slice a3 n3 c3) w.heap.size U1:=by rw [hU1];exact LB.made (l:=(lb,lq,(bu,se,nn),od)) hk1 hk2 hk3 hlo
 obtain ⟨U2,hU2⟩ : ∃ U,U=U1.alloc (.cells #[.int .i64 o1,.int .i64 o2,.int .i64 o3,.int .i64 o4,.int .i64 o5] 36):=⟨_,rfl⟩
 have hz2 : U2.heap.size=w.heap.size+1+1:=by rw [hU2];simp [hz1]
 obtain ⟨U,hU⟩ : ∃ U,U=U2.alloc (.cells (nilN 0 0 0) 28):=⟨_,rfl⟩
 have hz : U.heap.size=w.heap.size+1+1+1:=by rw [hU];simp [hz2]
 have hbU : Below w.heap.size w U:=nx (hU1 ▸ below1 w _) (nx (hU2 ▸ below1 U1 _) (hU ▸ below1 U2 _))
 have HX:=lH (hx1.stays (nx (hU2 ▸ below1 U1 _) (hU ▸ below1 U2 _)))
 have HG:=lH (show U.heap[w.heap.size+1+1]?=some (.cells (nilN 0 0 0) 28 (0,0)) from by rw [hU,← hz2];exact heap_alloc_new U2 _)
 have HzU:=lH hz
 have HbU:=lH hbU
 have HFr:=lH (hl_stays hf hbU)
 have HB:=lH (hB.mono hbU.size)
 have HU:=lH (show U=((w.alloc (.cells (cN lb lq (.slice a1 n1 c1) (.slice a2 n2 c2) nn (.slice a3 n3 c3)) 28)).alloc (.cells #[.int .i64 o1,.int .i64 o2,.int .i64 o3,.int .i64 o4,.int .i64 o5] 36)).alloc (.cells (nilN 0 0 0) 28) from by rw [hU,hU2,hU1])
 obtain ⟨R,hR⟩ : ∃ R,stepN (lb,lq,(bu,se,nn),od) fr (o1,o2,o3,o4,o5)=R:=⟨_,rfl⟩
 rw [hR]
 obtain ⟨m,fr',er⟩:=R
 have HR0:=lH hR
 have HS:=lH hs
 clear h hf hB hk1 hk2 hk3 hU1 hU2 hU hz1 hz2 hz hx1 hbU hR hs
 go_enter Tryz.func26,Tryz.ntmps26
 by_cases h2 : o1=2
 ·have hd2 : (o1==2)=true:=by simpa using h2
  obtain ⟨R,hR⟩ : ∃ R,cancelN (lb,lq,(bu,se,nn),od) fr o2 o4=R:=⟨_,rfl⟩
  obtain ⟨m',fr1,q,er'⟩:=R
  have HC:=lH hR
  have hq : (m,fr',er)=(m',fr1,er'):=by rw [← HR0.out];unfold stepN;rw [if_pos h2];simp only;rw [hR]
  simp only [Prod.mk.injEq] at hq
  obtain ⟨rfl,rfl,rfl⟩:=hq
  clear h2 hR
  go_wp2_with fail
  rw [← HU.out]
  refine (lcancel_any B _ _ fr fv o2 o4 U HX.out.ln HFr.out HB.out HS.out hm).mono ?_
  rw [HC.out]
  rintro e w2 ⟨v,f,rfl,hd,hln,hfl⟩
  simp only at hln hfl
  have hx2:=HX.out.stays hd
  have hb2:=nx HbU.out hd
  obtain ⟨b1,m1,d1,b2,m2,d2,b3,m3,d3,rfl,-,-,-,h1,h2,h3⟩:=hln.open'
  obtain ⟨b4,d4,rfl⟩:=hl_slice hfl
  obtain ⟨X,hX⟩ : ∃ X,X=w2.setRow w.heap.size (cN m.1 m.2.1 (.slice b1 m1 d1) (.slice b2 m2 d2) m.2.2.1.2.2 (.slice b3 m3 d3)):=⟨_,rfl⟩
  obtain ⟨hxX,hfX,hbX⟩:=box_put (m:=m) hx2 (Nat.le_refl _) hb2 h1 h2 h3 hfl
  rw [← hX] at hxX hfX hbX
  have hgX : X.heap[w.heap.size+1+1]?=some (.cells (nilN 0 0 0) 28 (0,0)):=by rw [hX];exact (setRow_other w2 w.heap.size (w.heap.size+1+1) _ (by omega)).trans ((hd.block _ (by rw [HzU.out];omega)).trans HG.out)
  have z0:=hx2.lt
  have p0:=hx2.plain
  have pX : plain 6 X (w.heap.size+1+1)=true:=by unfold Rw.plain;rw [hgX];rfl
  have zX:=(Array.getElem?_eq_some_iff.1 hgX).1
  have rX:=hxX.row
  have HF:=lH (fin_st hxX hgX hfX hbX)
  have hcs : row (X.setRow (w.heap.size+1+1) (cN m.1 m.2.1 (.slice b1 m1 d1) (.slice b2 m2 d2) m.2.2.1.2.2 (.slice b3 m3 d3))) (w.heap.size+1+1)=cN m.1 m.2.1 (.slice b1 m1 d1) (.slice b2 m2 d2) m.2.2.1.2.2 (.slice b3 m3 d3):=by unfold Rw.row;rw [setRow_heap X _ _ _ _ _ hgX]
  have HCs:=lH hcs
  have HbX:=lH hbX
  rw [hX] at pX zX rX
  rw [hX] at HF HCs
  clear hd hx2 hb2 hln hfl h1 h2 h3 hX hxX hfX hbX hgX hcs
  go_wp2
  refine bodyPost_ret (v:=.tuple #[.agg (cN m.1 m.2.1 (.slice b1 m1 d1) (.slice b2 m2 d2) m.2.2.1.2.2 (.slice b3 m3 d3)),.slice b4 fr'.length d4,.int .i64 er]) (ret_N3 Tryz.results26 _ _ rfl ?c1) rfl ?c2
  case c1=>first | exact HCs.out | (simp only [go_sem];exact HCs.out)
  case c2=>exact ⟨_,_,_,_,_,_,_,_,_,_,_,_,rfl,HF.out⟩
 ·have hd2 : (o1==2)=false:=by simpa using h2
  by_cases h3 : o1=3
  ·have hd3 : (o1==3)=true:=by simpa using h3
   obtain ⟨R,hR⟩ : ∃ R,collectN (lb,lq,(bu,se,nn),od) fr o2=R:=⟨_,rfl⟩
   obtain ⟨m',fr1,q1,q2,er'⟩:=R
   have HC:=lH hR
   have hq : (m,fr',er)=(m',fr1,er'):=by rw [← HR0.out];unfold stepN;rw [if_neg h2,if_pos h3];simp only;rw [hR]
   simp only [Prod.mk.injEq] at hq
   obtain ⟨rfl,rfl,rfl⟩:=hq
   clear h2 h3 hR
   go_wp2_with fail
   rw [← HU.out]
   refine (lcollect_any B _ _ fr fv o2 U HX.out.ln HFr.out HB.out HS.out hm).mono ?_
   rw [HC.out]
   rintro e w2 ⟨v,f,rfl,hd,hln,hfl⟩
   simp only at hln hfl
   have hx2:=HX.out.stays hd
   have hb2:=nx HbU.out hd
   obtain ⟨b1,m1,d1,b2,m2,d2,b3,m3,d3,rfl,-,-,-,h1,h2,h3⟩:=hln.open'
   obtain ⟨b4,d4,rfl⟩:=hl_slice hfl
   obtain ⟨X,hX⟩ : ∃ X,X=w2.setRow w.heap.size (cN m.1 m.2.1 (.slice b1 m1 d1) (.slice b2 m2 d2) m.2.2.1.2.2 (.slice b3 m3 d3)):=⟨_,rfl⟩
   obtain ⟨hxX,hfX,hbX⟩:=box_put (m:=m) hx2 (Nat.le_refl _) hb2 h1 h2 h3 hfl
   rw [← hX] at hxX hfX hbX
   have hgX : X.heap[w.heap.size+1+1]?=some (.cells (nilN 0 0 0) 28 (0,0)):=by rw [hX];exact (setRow_other w2 w.heap.size (w.heap.size+1+1) _ (by omega)).trans ((hd.block _ (by rw [HzU.out];omega)).trans HG.out)
   have z0:=hx2.lt
   have p0:=hx2.plain
   have pX : plain 6 X (w.heap.size+1+1)=true:=by unfold Rw.plain;rw [hgX];rfl
   have zX:=(Array.getElem?_eq_some_iff.1 hgX).1
   have rX:=hxX.row
   have HF:=lH (fin_st hxX hgX hfX hbX)
   have hcs : row (X.setRow (w.heap.size+1+1) (cN m.1 m.2.1 (.slice b1 m1 d1) (.slice b2 m2 d2) m.2.2.1.2.2 (.slice b3 m3 d3))) (w.heap.size+1+1)=cN m.1 m.2.1 (.slice b1 m1 d1) (.slice b2 m2 d2) m.2.2.1.2.2 (.slice b3 m3 d3):=by unfold Rw.row;rw [setRow_heap X _ _ _ _ _ hgX]
   have HCs:=lH hcs
   have HbX:=lH hbX
   rw [hX] at pX zX rX
   rw [hX] at HF HCs
   clear hd hx2 hb2 hln hfl h1 h2 h3 hX hxX hfX hbX hgX hcs
   go_wp2
   refine bodyPost_ret (v:=.tuple #[.agg (cN m.1 m.2.1 (.slice b1 m1 d1) (.slice b2 m2 d2) m.2.2.1.2.2 (.slice b3 m3 d3)),.slice b4 fr'.length d4,.int .i64 er]) (ret_N3 Tryz.results26 _ _ rfl ?c1) rfl ?c2
   case c1=>first | exact HCs.out | (simp only [go_sem];exact HCs.out)
   case c2=>exact ⟨_,_,_,_,_,_,_,_,_,_,_,_,rfl,HF.out⟩
  ·have hd3 : (o1==3)=false:=by simpa using h3
   obtain ⟨rs,hrs⟩ : ∃ rs,(o1 != 1)=rs:=⟨_,rfl⟩
   obtain ⟨R,hR⟩ : ∃ R,placeN (lb,lq,(bu,se,nn),od) fr o2 o3 o4 o5 rs=R:=⟨_,rfl⟩
   obtain ⟨m',fr1,q1,q2,er'⟩:=R
   have HC:=lH hR
   have hq : (m,fr',er)=(m',fr1,er'):=by rw [← HR0.out];unfold stepN;rw [if_neg h2,if_neg h3];simp only;rw [hrs,hR]
   simp only [Prod.mk.injEq] at hq
   obtain ⟨rfl,rfl,rfl⟩:=hq
   clear h2 h3 hR
   go_wp2_with fail
   rw [← HU.out]
   refine (lplace_any B _ _ fr fv o2 o3 o4 o5 rs U HX.out.ln HFr.out HB.out HS.out hm).mono ?_
   rw [HC.out]
   rintro e w2 ⟨v,f,gv,rfl,hd,hln,hfl,hgl⟩
   obtain ⟨gg,gc,rfl⟩:=hgl.len
   simp only at hln hfl
   have hx2:=HX.out.stays hd
   have hb2:=nx HbU.out hd
   obtain ⟨b1,m1,d1,b2,m2,d2,b3,m3,d3,rfl,-,-,-,h1,h2,h3⟩:=hln.open'
   obtain ⟨b4,d4,rfl⟩:=hl_slice hfl
   obtain ⟨X,hX⟩ : ∃ X,X=w2.setRow w.heap.size (cN m.1 m.2.1 (.slice b1 m1 d1) (.slice b2 m2 d2) m.2.2.1.2.2 (.slice b3 m3 d3)):=⟨_,rfl⟩
   obtain ⟨hxX,hfX,hbX⟩:=box_put (m:=m) hx2 (Nat.le_refl _) hb2 h1 h2 h3 hfl
   rw [← hX] at hxX hfX hbX
   have hgX : X.heap[w.heap.size+1+1]?=some (.cells (nilN 0 0 0) 28 (0,0)):=by rw [hX];exact (setRow_other w2 w.heap.size (w.heap.size+1+1) _ (by omega)).trans ((hd.block _ (by rw [HzU.out];omega)).trans HG.out)
   have z0:=hx2.lt
   have p0:=hx2.plain
   have pX : plain 6 X (w.heap.size+1+1)=true:=by unfold Rw.plain;rw [hgX];rfl
   have zX:=(Array.getElem?_eq_some_iff.1 hgX).1
   have rX:=hxX.row
   have HF:=lH (fin_st hxX hgX hfX hbX)
   have hcs : row (X.setRow (w.heap.size+1+1) (cN m.1 m.2.1 (.slice b1 m1 d1) (.slice b2 m2 d2) m.2.2.1.2.2 (.slice b3 m3 d3))) (w.heap.size+1+1)=cN m.1 m.2.1 (.slice b1 m1 d1) (.slice b2 m2 d2) m.2.2.1.2.2 (.slice b3 m3 d3):=by unfold Rw.row;rw [setRow_heap X _ _ _ _ _ hgX]
   have HCs:=lH hcs
   have HbX:=lH hbX
   rw [hX] at pX zX rX
   rw [hX] at HF HCs
   clear hd hx2 hb2 hln hfl h1 h2 h3 hX hxX hfX hbX hgX hcs
   go_wp2
   refine bodyPost_ret (v:=.tuple #[.agg (cN m.1 m.2.1 (.slice b1 m1 d1) (.slice b2 m2 d2) m.2.2.1.2.2 (.slice b3 m3 d3)),.slice b4 fr'.length d4,.int .i64 er]) (ret_N3 Tryz.results26 _ _ rfl ?c1) rfl ?c2
   case c1=>first | exact HCs.out | (simp only [go_sem];exact HCs.out)
   case c2=>exact ⟨_,_,_,_,_,_,_,_,_,_,_,_,rfl,HF.out⟩
end Go.Proofs.YthecinmekoaphaaGreat.La
namespace Go.Proofs.YthecinmekoaphaaGreat.Le
open Go.RowKit
open Go.ChangeShapes Go.WideShapes Go.Deep
open Rw
open Da
theorem cellsI : Tryz.prog.cellsOf 3=1:=by kernel_rfl
theorem cell_block {w : World} {p : Addr} {v : Value} (h : w.cell? p=some v) : p.block<w.heap.size:=by
 apply Nat.lt_of_not_le
 intro hc
 have : w.heap[p.block]?=none:=Array.getElem?_eq_none hc
 unfold World.cell? at h
 simp [this] at h
theorem is_of {α : Type} [Inhabited α] (e : Enc α) (T : TypeId) (h0 : 0<e.k) (w : World) (a : Addr) (len c : Nat) (good : α→Prop)
  (h : ∀ i,i<len→∃ x cs,good x∧e.R (Bs.of w.heap.size) x cs w∧∀ j u,cs[j]?=some u→w.cell? ((a.add (i*e.k)).add j)=some u) : ∃ l,Is e T (Bs.of w.heap.size) l (.slice (some a) len c) w∧l.length=len∧∀ x∈l,good x:=by
 classical
 have hg : ∀ i,∃ x,i<len→good x∧∃ cs,e.R (Bs.of w.heap.size) x cs w∧∀ j u,cs[j]?=some u→w.cell? ((a.add (i*e.k)).add j)=some u:=fun i=>by
  by_cases hi : i<len
  ·obtain ⟨x,cs,h1,h2,h3⟩:=h i hi;exact ⟨x,fun _=>⟨h1,cs,h2,h3⟩⟩
  ·exact ⟨default,fun e=>absurd e hi⟩
 let f:=fun i=>Classical.choose (hg i)
 have hf : ∀ i,i<len→good (f i)∧∃ cs,e.R (Bs.of w.heap.size) (f i) cs w∧∀ j u,cs[j]?=some u→w.cell? ((a.add (i*e.k)).add j)=some u:=fun i=>Classical.choose_spec (hg i)
 have hlen : ((List.range len).map f).length=len:=by simp
 refine ⟨(List.range len).map f,⟨some a,c,by rw [hlen],?_⟩,hlen,fun x hx=>?_⟩
 ·by_cases e0 : len=0
  ·left;subst e0;exact ⟨rfl,fun e=>by cases e⟩
  ·right
   obtain ⟨_,cs,hR,hu⟩:=hf 0 (by omega)
   have h1 : 0<cs.length:=by rw [e.len hR];exact h0
   have h2:=hu 0 _ (List.getElem?_eq_getElem h1)
   have h3:=World.cell?_spot h2
   obtain ⟨b,off,spot⟩:=a
   obtain rfl : spot=none:=by simpa [Addr.add] using h3
   have h4:=cell_block h2
   rw [add_eq,add_eq] at h4
   refine ⟨b,off,rfl,h4,.inl h4,fun i x hx=>?_⟩
   have hi : i<len:=by
    rcases Nat.lt_or_ge i len with h | h
    ·exact h
    ·rw [List.getElem?_eq_none (by rw [hlen];exact h)] at hx;cases hx
   have e2 : f i=x:=by simpa [hi] using hx
   subst e2
   obtain ⟨_,ds,hR2,hu2⟩:=hf i hi
   refine ⟨ds,hR2,fun j u hj=>?_⟩
   have:=hu2 j u hj
   rwa [add_eq,add_eq] at this
 ·obtain ⟨i,hi,rfl⟩:=List.mem_map.1 hx
  exact (hf i (List.mem_range.1 hi)).1
theorem one_of {H : Type} {en : TypeId × Value→H} {w : World} {base n : Nat} {sp : Nat→Bool} {held : Bool} {cs : List Value} {y : DataW H × List MemPlace} (j : Nat)
  (h : DataW.trod en Tryz.prog w base sp held n 3 ((cs.drop j).take 1)=some y) : ∃ x,cs[j]?=some (.int .i64 x)∧(Lit.int .i64 x).wf=true:=by
 obtain ⟨x,e,_,hw⟩:=DataW.trod_int Tryz.underlying3 h
 refine ⟨x,?_,hw⟩
 have e2 : ((cs.drop j).take 1)[0]?=some (.int .i64 x):=by rw [e];rfl
 simpa using e2
theorem fld {H : Type} {en : TypeId × Value→H} {w : World} {base n o k : Nat} {sp : Nat→Bool} {held : Bool} {t : TypeId} {cs : List Value} {y : DataW H × List MemPlace} {f : Field} (ht : f.type=t) (ho : f.offset=o) (hk : Tryz.prog.cellsOf t=k)
  (h : DataW.trod en Tryz.prog w base sp held n f.type ((cs.drop f.offset).take (Tryz.prog.cellsOf f.type))=some y) : DataW.trod en Tryz.prog w base sp held n t ((cs.drop o).take k)=some y:=by
 subst ht ho hk;exact h
def wfI (x : Int) : Prop:=(Lit.int .i64 x).wf=true
end Go.Proofs.YthecinmekoaphaaGreat.Le
namespace Go.Proofs.YthecinmekoaphaaGreat.La
open Go.RowKit
open Go.ChangeShapes Go.WideShapes Go.Deep
open Rw
open Da
open Le
open Bk
open Ac (Hd Pu HL pmay pmay_iff tot total giveE giveL takeE takeL)
def eP : Enc Op5:=Enc.flat 5 (fun o=>[.int .i64 o.1,.int .i64 o.2.1,.int .i64 o.2.2.1,.int .i64 o.2.2.2.1,.int .i64 o.2.2.2.2]) (fun _=>rfl) (fun o u hu=>by simp at hu;rcases hu with rfl | rfl | rfl | rfl | rfl<;>rfl)
abbrev PL (B : Bs) (l : List Op5) (v : Value) (w : World) : Prop:=Is eP 36 B l v w
theorem atP {B : Bs} {l : List Op5} {b off : Nat} {w : World} (h : Lies eP 36 B l b off w) (i : Nat) (hi : i<l.length) :
  w.cell? ⟨b,off+i*5,none⟩=some (.int .i64 l[i].1)∧w.cell? ⟨b,off+i*5+1,none⟩=some (.int .i64 l[i].2.1)∧w.cell? ⟨b,off+i*5+2,none⟩=some (.int .i64 l[i].2.2.1)∧w.cell? ⟨b,off+i*5+3,none⟩=some (.int .i64 l[i].2.2.2.1)∧w.cell? ⟨b,off+i*5+4,none⟩=some (.int .i64 l[i].2.2.2.2):=by
 obtain ⟨cs,rfl,hu⟩:=h.at i hi
 exact ⟨hu 0 _ rfl,hu 1 _ rfl,hu 2 _ rfl,hu 3 _ rfl,hu 4 _ rfl⟩
def wfP (o : Op5) : Prop:=wfI o.1∧wfI o.2.1∧wfI o.2.2.1∧wfI o.2.2.2.1∧wfI o.2.2.2.2
def wfPs (l : List Op5) : Prop:=l.length≤maxLen∧∀ o∈l,wfP o
theorem cellsP5 : Tryz.prog.cellsOf 36=5:=by kernel_rfl
theorem open_ops {H : Type} {en : TypeId × Value→H} {w : World} {base fuel : Nat} {sp : Nat→Bool} {held : Bool} {a : Option Addr} {n c : Nat} {x : DataW H × List MemPlace}
  (h : DataW.trod en Tryz.prog w base sp held fuel 22 (Value.slice a n c).cells.toList=some x) : ∃ l,PL (Bs.of w.heap.size) l (.slice a n c) w∧wfPs l:=by
 rcases open_slice Tryz.underlying22 h with ⟨hcs,_⟩ | ⟨ad,len,cap,m,n',D,Pl,hcs,_,hl,hcap,hm,_,hi⟩
 ·simp [Value.cells] at hcs
  obtain ⟨rfl,rfl,rfl⟩:=hcs
  exact ⟨[],Is.nil _ _ _ _,Nat.zero_le _,by simp⟩
 ·simp [Value.cells] at hcs
  obtain ⟨rfl,rfl,rfl⟩:=hcs
  suffices h : ∃ l,PL (Bs.of w.heap.size) l (.slice (some ad) n c) w∧l.length=n∧∀ o∈l,wfP o by
   obtain ⟨l,h1,h2,h3⟩:=h
   exact ⟨l,h1,by omega,h3⟩
  refine is_of eP 36 (by decide) w ad n c wfP fun i hlt=>?_
  obtain ⟨cs,hc,ht⟩:=hi i (by rw [hm];split<;>omega)
  rw [cellsP5] at hc
  obtain ⟨_,hcl,hat⟩:=World.cells?_some hc
  obtain ⟨ys,n1,_,_,_,hyl,hf⟩:=DataW.trod_struct Tryz.underlying36 ht
  have g1:=fld (o:=0) (t:=3) rfl rfl cellsI ((hf 0 _ rfl).trans (List.getElem?_eq_getElem (by rw [hyl];decide)))
  have g2:=fld (o:=1) (t:=3) rfl rfl cellsI ((hf 1 _ rfl).trans (List.getElem?_eq_getElem (by rw [hyl];decide)))
  have g3:=fld (o:=2) (t:=3) rfl rfl cellsI ((hf 2 _ rfl).trans (List.getElem?_eq_getElem (by rw [hyl];decide)))
  have g4:=fld (o:=3) (t:=3) rfl rfl cellsI ((hf 3 _ rfl).trans (List.getElem?_eq_getElem (by rw [hyl];decide)))
  have g5:=fld (o:=4) (t:=3) rfl rfl cellsI ((hf 4 _ rfl).trans (List.getElem?_eq_getElem (by rw [hyl];decide)))
  obtain ⟨x1,e1,w1⟩:=one_of 0 g1
  obtain ⟨x2,e2,w2⟩:=one_of 1 g2
  obtain ⟨x3,e3,w3⟩:=one_of 2 g3
  obtain ⟨x4,e4,w4⟩:=one_of 3 g4
  obtain ⟨x5,e5,w5⟩:=one_of 4 g5
  refine ⟨(x1,x2,x3,x4,x5),_,⟨w1,w2,w3,w4,w5⟩,rfl,fun j u hu=>?_⟩
  show w.cell? ((ad.add (i*5)).add j)=some u
  match j,hu with
  | 0,hu=>obtain rfl:=Option.some.inj hu;rw [hat 0 (by omega),e1]
  | 1,hu=>obtain rfl:=Option.some.inj hu;rw [hat 1 (by omega),e2]
  | 2,hu=>obtain rfl:=Option.some.inj hu;rw [hat 2 (by omega),e3]
  | 3,hu=>obtain rfl:=Option.some.inj hu;rw [hat 3 (by omega),e4]
  | 4,hu=>obtain rfl:=Option.some.inj hu;rw [hat 4 (by omega),e5]
  | j+5,hu=>cases hu
end Go.Proofs.YthecinmekoaphaaGreat.La
namespace Go.Proofs.YthecinmekoaphaaGreat.La
open Go.RowKit
open Rw
open Da
open Le
open Bk
open Ac (Hd Pu HL pmay pmay_iff tot total giveE giveL takeE takeL)
noncomputable def ru (n : Int) (ops : List Op5) : Ln × List Hd:=runN ln0 (richK n 4) ops
theorem ru_right (n : Int) (ops : List Op5) : RightN (ru n ops).1∧Ac.Right (ru n ops).2:=⟨(runN_right ops awR0 (rich_right n 4)).1,(runN_right ops awR0 (rich_right n 4)).2.1⟩
theorem ru_take {n : Int} {ops : List Op5} {k : Nat} (h : k<ops.length) : ru n (ops.take (k+1))=((stepN (ru n (ops.take k)).1 (ru n (ops.take k)).2 ops[k]).1,(stepN (ru n (ops.take k)).1 (ru n (ops.take k)).2 ops[k]).2.1):=by
 unfold ru
 rw [Da.take_snoc h,runN_snoc]
theorem ac_len {l : List Hd} (h : Ac.Right l) : l.length≤1000:=by have:=Ac.right_512 h;omega
theorem LN.inv {B : Bs} {m : Ln} {i j k : Int} {x y o : Value} {w : World} (h : LN B m (.agg (cN i j x y k o)) w) : LL B m.2.2.1.1 x w∧LL B m.2.2.1.2.1 y w∧HL B.lo m.2.2.2 o w:=by
 obtain ⟨x',y',o',hv,h1,h2,h3⟩:=h
 simp only [Array.mk.injEq,List.cons.injEq,Value.agg.injEq,cN,and_true] at hv
 obtain ⟨-,-,rfl,rfl,-,rfl⟩:=hv
 exact ⟨h1,h2,h3⟩
theorem res_is {B : Bs} {l : Ln} {v : Value} {a r : Int} {w : World} (hr : reserved l a=r) (h : LN B l v w) (hB : B.le w.heap.size) (hs : Sm l) :
  Calls Tryz.prog 20 #[v,.int .i64 a] w fun e w'=>e=.returned (.int .i64 r)∧Below w.heap.size w w':=by
 rw [← hr];exact lreserved_any B l v a w h hB hs
theorem owe_is {B : Bs} {l : Ln} {v : Value} {a r : Int} {w : World} (hr : owedN l a=r) (h : LN B l v w) (hB : B.le w.heap.size) (hs : Sm l) :
  Calls Tryz.prog 22 #[v,.int .i64 a] w fun e w'=>e=.returned (.int .i64 r)∧Below w.heap.size w w':=by
 rw [← hr];exact lowed_any B l v a w h hB hs
structure Inv (l : Ln) (fr : List Hd) : Prop where
 sm : Sm l
 free : Ac.Right fr
theorem Inv.len {l : Ln} {fr : List Hd} (h : Inv l fr) : fr.length≤1000:=ac_len h.free
theorem inv_place {l : Ln} {fr : List Hd} (h : Inv l fr) (ow s p n : Int) (rest : Bool) : Inv (placeN l fr ow s p n rest).1 (placeN l fr ow s p n rest).2.1:=by
 by_cases hr : rightN l=true
 ·have k:=(placeN_keep (rightN_iff.1 hr) h.free ow s p n rest).1
  exact ⟨sm_right k.right,k.free⟩
 ·have e : placeN l fr ow s p n rest=(l,fr,[],0,1):=by unfold placeN;rw [if_neg (by simp [hr])]
  rw [e];exact h
theorem inv_cancel {l : Ln} {fr : List Hd} (h : Inv l fr) (ow id : Int) : Inv (cancelN l fr ow id).1 (cancelN l fr ow id).2.1:=by
 by_cases hr : rightN l=true
 ·have k:=(cancelN_keep (rightN_iff.1 hr) h.free ow id).1
  exact ⟨sm_right k.right,k.free⟩
 ·have e : cancelN l fr ow id=(l,fr,0,1):=by unfold cancelN;rw [if_neg (by simp [hr])]
  rw [e];exact h
theorem inv_collect {l : Ln} {fr : List Hd} (h : Inv l fr) (ow : Int) : Inv (collectN l fr ow).1 (collectN l fr ow).2.1:=by
 by_cases hr : rightN l=true
 ·have k:=(collectN_keep (rightN_iff.1 hr) h.free ow).1
  exact ⟨sm_right k.right,k.free⟩
 ·have e : collectN l fr ow=(l,fr,0,0,1):=by unfold collectN;rw [if_neg (by simp [hr])]
  rw [e];exact h
theorem fin_fills (l : Ln) (fr : List Hd) (ow s p : Int) (C : Pl) (S : List Hd × Int × Int × Int) : (fin l fr ow s p C S).2.2.1=C.2.1∨(fin l fr ow s p C S).2.2.1=[]:=by
 unfold fin
 simp only
 repeat' split
 all_goals first | exact .inl rfl | exact .inr rfl
theorem place_fills {l : Ln} {fr : List Hd} (ow s p n : Int) (rest : Bool) : (placeN l fr ow s p n rest).2.2.1.length≤1000000:=by
 by_cases hr : rightN l=true
 ·unfold placeN
  split
  ·simp only
   by_cases h1 : (place l.2.2.1 ow s p n rest).2.2.2.2=0
   ·rw [if_pos h1]
    have hc:=(place_n (B:=0) (Q:=0) (rightN_iff.1 hr).book h1).cnt
    split
    ·rcases fin_fills l fr ow s p (place l.2.2.1 ow s p n rest) (stl l.1 l.2.1 s (place l.2.2.1 ow s p n rest).2.1 l.2.2.2 0 0) with e | e
     ·rw [e];omega
     ·rw [e];exact Nat.zero_le _
    ·exact Nat.zero_le _
   ·rw [if_neg h1];exact Nat.zero_le _
  ·exact Nat.zero_le _
 ·have e : placeN l fr ow s p n rest=(l,fr,[],0,1):=by unfold placeN;rw [if_neg (by simp [hr])]
  rw [e];exact Nat.zero_le _
theorem inv_new (b q : Int) (n : Int) : Inv (newN b q) (richK n 4):=by
 refine ⟨?_,rich_right n 4⟩
 unfold newN
 split<;>exact ⟨Nat.zero_le _,Nat.zero_le _,Nat.zero_le _,Nat.zero_le _,Nat.zero_le _⟩
theorem ln_new (B : Bs) (b q : Int) (w : World) : LN B (newN b q) (.agg (nwC b q)) w:=by
 unfold nwC newN
 split
 ·exact ⟨_,_,_,rfl,Is.nil _ _ _ _,Is.nil _ _ _ _,Sl.SL.nil _ _ _ _⟩
 ·exact ⟨_,_,_,rfl,Is.nil _ _ _ _,Is.nil _ _ _ _,Sl.SL.nil _ _ _ _⟩
structure Two (B : Bs) (m : Ln) (fr : List Hd) (f g : Value) (s p x y : Nat) (x1 y1 o1 x2 y2 o2 : Value) (c3 c4 : Array Value) (w W : World) : Prop where
 rx : row W x=c3
 ry : row W y=c4
 rx2 : row (W.setRow p c4) x=c3
 ry2 : row (W.setRow s c3) y=c4
 p1 : plain 6 W s=true
 p2 : plain 6 W p=true
 p3 : plain 6 (W.setRow s c3) p=true
 p4 : plain 6 (W.setRow p c4) s=true
 com : (W.setRow p c4).setRow s c3=(W.setRow s c3).setRow p c4
 b1 : LB B m x1 y1 o1 s ((W.setRow s c3).setRow p c4)
 b2 : LB B m x2 y2 o2 p ((W.setRow s c3).setRow p c4)
 fr1 : HL B.lo fr f ((W.setRow s c3).setRow p c4)
 fr2 : HL B.lo fr g ((W.setRow s c3).setRow p c4)
 bel : Below w.heap.size w ((W.setRow s c3).setRow p c4)
theorem two {B : Bs} {l m : Ln} {fr : List Hd} {f g : Value} {s p x y : Nat} {a1 a2 a3 b1 b2 b3 x1 y1 o1 x2 y2 o2 : Value} {w W : World} (hp : LB B l a1 a2 a3 s W) (hq : LB B l b1 b2 b3 p W) (hx : LB B m x1 y1 o1 x W) (hy : LB B m x2 y2 o2 y W) (hf : HL B.lo fr f W) (hg : HL B.lo fr g W)
  (h1 : s<p) (h2 : p<x) (h3 : p<y) (hb : Below w.heap.size w W) (hw : w.heap.size≤s) : Two B m fr f g s p x y x1 y1 o1 x2 y2 o2 (cN m.1 m.2.1 x1 y1 m.2.2.1.2.2 o1) (cN m.1 m.2.1 x2 y2 m.2.2.1.2.2 o2) w W:=by
 obtain ⟨c3,e3⟩ : ∃ c,cN m.1 m.2.1 x1 y1 m.2.2.1.2.2 o1=c:=⟨_,rfl⟩
 obtain ⟨c4,e4⟩ : ∃ c,cN m.1 m.2.1 x2 y2 m.2.2.1.2.2 o2=c:=⟨_,rfl⟩
 have kq:=hx.other (by omega) hq.lo hq.bk c4
 have ly:=hy.other (by omega) hp.lo hp.bk c3
 have q1:=hq.other (by omega) hp.lo hp.bk c3
 have p1:=hp.other (by omega) hq.lo hq.bk c4
 have s1 : LB B m x1 y1 o1 s (W.setRow s c3):=by rw [← e3];exact LB.put hp.bk hp.lo hx.l1 hx.l2 hx.l3
 have t1 : LB B m x2 y2 o2 p ((W.setRow s c3).setRow p c4):=by rw [← e4];exact LB.put q1.bk q1.lo ly.l1 ly.l2 ly.l3
 rw [e3,e4]
 have ft : ∀ v,HL B.lo fr v W→HL B.lo fr v ((W.setRow s c3).setRow p c4):=fun v hv=>hl_keep (hl_keep hv (keeps_setRow _ hp.bk (by decide) hp.lo)) (keeps_setRow _ q1.bk (by decide) q1.lo)
 exact ⟨by rw [hx.row,e3],by rw [hy.row,e4],by rw [kq.row,e3],by rw [ly.row,e4],hp.plain,hq.plain,q1.plain,p1.plain,setRow_comm W _ _ (by omega),s1.other (by omega) q1.lo q1.bk c4,t1,ft f hf,ft g hg,below_setRow (below_setRow hb hw _) (by omega) _⟩
theorem rres_is {B : Bs} {l : Ln} {v : Value} {a r : Int} {w : World} (hr : reserved l a=r) (h : LN B l v w) (hB : B.le w.heap.size) (hs : Sm l) :
  Calls Tryz.prog 21 #[v,.int .i64 a] w fun e w'=>e=.returned (.int .i64 r)∧Below w.heap.size w w':=by
 rw [← hr];exact rReserved10_any B l v a w h hB hs
theorem rowe_is {B : Bs} {l : Ln} {v : Value} {a r : Int} {w : World} (hr : owedN l a=r) (h : LN B l v w) (hB : B.le w.heap.size) (hs : Sm l) :
  Calls Tryz.prog 23 #[v,.int .i64 a] w fun e w'=>e=.returned (.int .i64 r)∧Below w.heap.size w w':=by
 rw [← hr];exact rOwed10_any B l v a w h hB hs
theorem lrt_is {B : Bs} {l : Ln} {v : Value} {r : Bool} {w : World} (hr : rightN l=r) (h : LN B l v w) (hB : B.le w.heap.size) (hs : Sm l) :
  Calls Tryz.prog 24 #[v] w fun e w'=>e=.returned (.bool r)∧Below w.heap.size w w':=by
 rw [← hr];exact lright_any B l v w h hB hs
theorem rright_is {B : Bs} {l : Ln} {v : Value} {r : Bool} {w : World} (hr : rightN l=r) (h : LN B l v w) (hB : B.le w.heap.size) (hs : Sm l) :
  Calls Tryz.prog 25 #[v] w fun e w'=>e=.returned (.bool r)∧Below w.heap.size w w' :=
 rRight10_is (lH hr) h hB hs
end Go.Proofs.YthecinmekoaphaaGreat.La
