/- The document's own: Place. -/
import Derived.Test.YthecinmekoaphaaGreatQbZZ
import Derived.Test.YthecinmekoaphaaGreatQbBA
set_option linter.unusedVariables false
set_option maxRecDepth 16000
set_option maxHeartbeats 32000000
namespace Go.Proofs.YthecinmekoaphaaGreat.Bk
open Go.RowKit
open Rw
open Da
open Le
theorem blk_ty {B : Bs} {Bo : Nat} {l : List Lv} {hs : List Hw} {W : World} (h : Mine B Bo l hs W) : ∀ b,Blk hs b→∃ cur,W.heap[b]?=some (.cells cur 70 (0,0)):=fun b hx=>by
 obtain ⟨i,y,hy,hg⟩:=hx
 have hl:=h.len
 have hil : i<l.length:=by have:=(List.getElem?_eq_some_iff.1 hy).1;omega
 obtain ⟨css,_,_,hr⟩:=(h.own i _ y (List.getElem?_eq_getElem hil) hy).2
 rcases hr.2 with ⟨e,_⟩ | ⟨g,cap,cur,e,_,hh,_⟩
 ·rw [e] at hg;cases hg
 ·rw [e] at hg
  obtain rfl:=Option.some.inj hg
  exact ⟨cur,hh⟩
theorem keeps_blk {B : Bs} {Bo : Nat} {l : List Lv} {hs : List Hw} {W W' : World} {ts : List TypeId} (h : Mine B Bo l hs W) (ht : 70 ∉ ts) (ha : Alt (Blk hs) W W') (A : Bs) (hA : A.lo≤Bo) : Keeps A ts W W' :=
 ⟨ha.size,fun b o hb ho=>(ha.block b (Array.getElem?_eq_some_iff.1 hb).1 fun hx=>by
  obtain ⟨cur,hc⟩:=blk_ty h b hx
  rw [hb] at hc
  obtain rfl:=Option.some.inj hc
  rcases ho with ho | ⟨_,_,_,he,hm,_⟩
  ·have:=(blk_ge h b hx).1;omega
  ·simp only [Obj.cells.injEq] at he
   exact ht (he.2.1 ▸ hm)).trans hb⟩
theorem MyB.keep {B : Bs} {Bo : Nat} {b : Bk} {x y : Value} {hs1 hs2 : List Hw} {w w' : World} (h : MyB B Bo b x y hs1 hs2 w) (hBo : B.le Bo) (hk : ∀ A : Bs,A.lo=B.lo→∀ ts,25 ∉ ts→Keeps A ts w w') : MyB B Bo b x y hs1 hs2 w' :=
 ⟨Is.keep eF 98 h.i1 (hk _ rfl _ (by decide)),h.m1.keep hBo (hk _ rfl _ (by decide)),Is.keep eF 98 h.i2 (hk _ rfl _ (by decide)),h.m2.keep hBo (hk _ rfl _ (by decide)),Is.keep eL 98 h.o1 (hk (B.but _) rfl _ (by decide)),Is.keep eL 98 h.o2 (hk (B.but _) rfl _ (by decide))⟩
theorem ret_B5 {fn : Func} {p q r t u : Tmp} (h : fn.results=#[.cell p 25,.tmp q,.tmp r,.tmp t,.tmp u]) (tmps : Array Value) (w : World) {cs : Array Value} (hs : cs.size=3) (hr : rowOf w (tmps.getD p undef)=cs) : (results fn tmps).run Tryz.prog w=.ok (.tuple #[.agg cs,tmps.getD q undef,tmps.getD r undef,tmps.getD t undef,tmps.getD u undef]) w:=by
 obtain ⟨b,e,hl⟩:=read_cell (P:=Tryz.prog) (T:=25) (n:=2) Tryz.underlying25 rfl (by kernel_rfl) hr hs
 have hp : tmps[p]?.getD undef=.pointer (some ⟨b,0,none⟩):=by simpa using e
 simp [results,h,hp,asAddr,hl]
structure Fin1 (A : Bs) (b : Bk) (x y : Value) (s : Nat) (w W : World) : Prop where
 p1 : plain 3 W (s+1)=true
 r1 : row (W.setRow (s+1) #[x,y,.int .i64 b.2.2]) (s+1)=#[x,y,.int .i64 b.2.2]
 bel : Below s w (W.setRow (s+1) #[x,y,.int .i64 b.2.2])
 bl : BL A b (.agg #[x,y,.int .i64 b.2.2]) (W.setRow (s+1) #[x,y,.int .i64 b.2.2])
theorem CF.fin1 {A : Bs} {b : Bk} {x y : Value} {s : Nat} {w W : World} (h : CF A b x y s w W) (g1 : W.heap[s+1]?=some (.cells zB 25 (0,0))) : Fin1 A b x y s w W:=by
 have hc:=h.otherB (k:=s+1) (by omega) g1 #[x,y,.int .i64 b.2.2]
 refine ⟨by unfold Rw.plain;rw [g1];rfl,?_,hc.bel,hc.bl⟩
 unfold Rw.row
 rw [setRow_heap W (s+1) _ _ _ _ g1]
def plRes (b : Bk) (ow s p : Int) (rest : Bool) : Option (List Fl × Int)→Pl
 | none=>(b,[],0,0,11)
 | some (fs,lf) =>
  if rest=true∧0<lf then
   if 40≤(cntB b : Int) - (dn fs : Nat)∨b.2.2=1073741824 then (b,[],0,0,10)
   else (putB (wout b s fs) (b.2.2,ow,s,p,lf),fs,lf,b.2.2,0)
  else (wout b s fs,fs,lf,0,0)
theorem plRes_not {b : Bk} {ow s p : Int} {rest : Bool} {fs : List Fl} {lf : Int} (h : ¬ (rest=true∧0<lf)) : plRes b ow s p rest (some (fs,lf))=(wout b s fs,fs,lf,0,0):=if_neg h
theorem plRes_full {b : Bk} {ow s p : Int} {fs : List Fl} {lf : Int} (h : 0<lf) (k : 40≤(cntB b : Int) - (dn fs : Nat)∨b.2.2=1073741824) : plRes b ow s p true (some (fs,lf))=(b,[],0,0,10):=(if_pos ⟨rfl,h⟩).trans (if_pos k)
theorem plRes_put {b : Bk} {ow s p : Int} {fs : List Fl} {lf : Int} (h : 0<lf) (k : ¬ (40≤(cntB b : Int) - (dn fs : Nat)∨b.2.2=1073741824)) : plRes b ow s p true (some (fs,lf))=(putB (wout b s fs) (b.2.2,ow,s,p,lf),fs,lf,b.2.2,0):=(if_pos ⟨rfl,h⟩).trans (if_neg k)
theorem place_tr {b : Bk} {ow s p q : Int} {rest : Bool} (h : RightB b) (ha : argOk ow s p q=true) : place b ow s p q rest=plRes b ow s p rest (tr ow s p (flat (oth b s)) q):=by
 unfold place
 rw [rightB_iff.2 h,ha,Bool.true_and,if_pos rfl]
 cases tr ow s p (flat (oth b s)) q<;>rfl
structure Aft (B : Bs) (b : Bk) (x y : Value) (s : Nat) (w W F : World) (fs : List Fl) (fv : Value) : Prop where
 cf : CF B b x y s w F
 g1 : F.heap[s+1]?=some (.cells zB 25 (0,0))
 fl : FL B fs fv F
 bk : ∃ u v t,W.heap[s]?=some (.cells #[u,v,t] 25 (0,0))
 lt : s+1<W.heap.size
theorem aft1 {B : Bs} {Bo : Nat} {b : Bk} {x y v : Value} {hs1 hs2 : List Hw} {s : Nat} {w W W' : World} {fs : List Fl} {fv : Value} {l : List Lv} (hm : MyB B Bo b x y hs1 hs2 W) (hc : CF B b x y s w W) (g1 : W.heap[s+1]?=some (.cells zB 25 (0,0))) (hB : B.lo≤Bo) (hs : s+1<Bo) (hf : FL B fs fv W) (ha : Alt (Blk hs2) W W') (hl : LL B l v W') : Aft B (b.1,l,b.2.2) x v s w W' (W'.setCell ⟨s,1,none⟩ v) fs fv:=by
 have hne : ∀ q,q≤s+1→W'.heap[q]?=W.heap[q]?:=fun q hq=>ha.block q (by have:=(Array.getElem?_eq_some_iff.1 g1).1;omega) (fun hx=>by have:=(blk_ge hm.m2 q hx).1;omega)
 have h0:=(hne s (by omega)).trans hc.bk
 have h1:=(hne (s+1) (by omega)).trans g1
 have hl1 : LL B b.1 x W':=Is.up eL 98 (Bs.sub_but _ _) (Is.keep eL 98 hm.o1 (Keeps.of_alt ha (fun q hq _=>⟨.inr hq,by have:=(blk_ge hm.m2 q hq).1;show B.lo≤q;omega⟩)))
 have hcf : CF B (b.1,b.2.1,b.2.2) x y s w W'→True:=fun _=>trivial
 have hbl : Below s w W':=hc.bel.trans (Alt.below (Below.refl _ _ |>.mono (Nat.le_of_lt hc.lt)) ha (Nat.le_of_lt hc.lt) (fun q hq=>by have:=(blk_ge hm.m2 q hq).1;omega))
 have hfl : FL B fs fv W':=Is.keep eFl 91 hf (keeps_blk hm.m2 (by decide) ha B hB)
 refine ⟨⟨set3 h0,hc.lo,Is.keep eL 98 hl1 (keeps_setCell 1 v h0 (by decide) hc.lo),Is.keep eL 98 hl (keeps_setCell 1 v h0 (by decide) hc.lo),hbl.trans (low_setCell 1 v (Nat.le_refl _))⟩,?_,Is.keep eFl 91 hfl (keeps_setCell 1 v h0 (by decide) hc.lo),⟨_,_,_,h0⟩,(Array.getElem?_eq_some_iff.1 h1).1⟩
 rw [Below.heap_setCell W' ⟨s,1,none⟩ v (s+1) (by show s+1≠s;omega)];exact h1
theorem aft2 {B : Bs} {Bo : Nat} {b : Bk} {x y v : Value} {hs1 hs2 : List Hw} {s : Nat} {w W W' : World} {fs : List Fl} {fv : Value} {l : List Lv} (hm : MyB B Bo b x y hs1 hs2 W) (hc : CF B b x y s w W) (g1 : W.heap[s+1]?=some (.cells zB 25 (0,0))) (hB : B.lo≤Bo) (hs : s+1<Bo) (hf : FL B fs fv W) (ha : Alt (Blk hs1) W W') (hl : LL B l v W') : Aft B (l,b.2.1,b.2.2) v y s w W' (W'.setCell ⟨s,0,none⟩ v) fs fv:=by
 have hne : ∀ q,q≤s+1→W'.heap[q]?=W.heap[q]?:=fun q hq=>ha.block q (by have:=(Array.getElem?_eq_some_iff.1 g1).1;omega) (fun hx=>by have:=(blk_ge hm.m1 q hx).1;omega)
 have h0:=(hne s (by omega)).trans hc.bk
 have h1:=(hne (s+1) (by omega)).trans g1
 have hl1 : LL B b.2.1 y W':=Is.up eL 98 (Bs.sub_but _ _) (Is.keep eL 98 hm.o2 (Keeps.of_alt ha (fun q hq _=>⟨.inr hq,by have:=(blk_ge hm.m1 q hq).1;show B.lo≤q;omega⟩)))
 have hbl : Below s w W':=hc.bel.trans (Alt.below (Below.refl _ _ |>.mono (Nat.le_of_lt hc.lt)) ha (Nat.le_of_lt hc.lt) (fun q hq=>by have:=(blk_ge hm.m1 q hq).1;omega))
 have hfl : FL B fs fv W':=Is.keep eFl 91 hf (keeps_blk hm.m1 (by decide) ha B hB)
 refine ⟨⟨set3 h0,hc.lo,Is.keep eL 98 hl (keeps_setCell 0 v h0 (by decide) hc.lo),Is.keep eL 98 hl1 (keeps_setCell 0 v h0 (by decide) hc.lo),hbl.trans (low_setCell 0 v (Nat.le_refl _))⟩,?_,Is.keep eFl 91 hfl (keeps_setCell 0 v h0 (by decide) hc.lo),⟨_,_,_,h0⟩,(Array.getElem?_eq_some_iff.1 h1).1⟩
 rw [Below.heap_setCell W' ⟨s,0,none⟩ v (s+1) (by show s+1≠s;omega)];exact h1
theorem tr_fills {ow s p q : Int} {os : List Od} {fs : List Fl} {lf : Int} (h : TrS ow s p os q fs lf) (ho : ∀ o∈os,0≤olf o∧olf o≤1048576) :
  (∀ i (h : i<fs.length),fs[i].2.2.2.2=false→i+1=fs.length)∧∀ f∈fs,0≤f.2.2.2.1∧f.2.2.2.1≤1048576:=by
 refine ⟨fun i hi hd=>?_,fun f hf=>?_⟩
 ·obtain ⟨h',n,e,n1,n2,_,_,n3⟩:=h.at' i hi
  rw [e] at hd
  have : n≠olf os[i]:=by simpa [mkF] using hd
  exact n3 (by omega)
 ·obtain ⟨i,hi,rfl⟩:=List.mem_iff_getElem.1 hf
  obtain ⟨h',n,e,n1,n2,_⟩:=h.at' i hi
  have:=ho _ (List.getElem_mem h')
  rw [e]
  show 0≤n∧n≤1048576
  omega
def PostPl (B : Bs) (c : Pl) (w : World) (e : Ending) (w' : World) : Prop:=∃ bv fv,e=.returned (.tuple #[bv,fv,.int .i64 c.2.2.1,.int .i64 c.2.2.2.1,.int .i64 c.2.2.2.2])∧Below w.heap.size w w'∧BL B c.1 bv w'∧FL B c.2.1 fv w'
theorem place_arg {b : Bk} {ow s p q : Int} {rest : Bool} (h : argOk ow s p q=false) : place b ow s p q rest=(b,[],0,0,1):=by unfold place;rw [h,Bool.and_false,if_neg (by decide)]
theorem rPlace_any (B : Bs) (b : Bk) (v : Value) (ow sd p q : Int) (rest : Bool) (w : World) (h : BL B b v w) (hB : B.le w.heap.size) (h1 : b.1.length≤1000000) (h2 : (flat b.1).length≤1000000) (h3 : b.2.1.length≤1000000) (h4 : (flat b.2.1).length≤1000000) :
  Calls Tryz.prog 53 #[v,.int .i64 ow,.int .i64 sd,.int .i64 p,.int .i64 q,.bool rest] w (PostPl B (place b ow sd p q rest) w):=by
 obtain ⟨x,y,rfl,hx,hy⟩:=h
 obtain ⟨C,hC⟩ : ∃ C,place b ow sd p q rest=C:=⟨_,rfl⟩
 rw [hC]
 obtain ⟨s,hs⟩ : ∃ s,w.heap.size=s:=⟨_,rfl⟩
 obtain ⟨V,hV⟩ : ∃ V,V=(w.alloc (.cells #[x,y,.int .i64 b.2.2] 25)).alloc (.cells #[.slice none 0 0,.slice none 0 0,.int .i64 0] 25):=⟨_,rfl⟩
 have hbV : Below w.heap.size w V:=hV ▸ below2 w _ _
 have hzV : V.heap.size=s+2:=by rw [hV,← hs];simp
 have hBl : B.le (s+2):=hB.mono (by omega)
 have hlo : B.lo≤s:=by have:=hB.1;rw [← hs];exact this
 have hxV : LL B b.1 x V:=Is.stays eL 98 hx hbV
 have hyV : LL B b.2.1 y V:=Is.stays eL 98 hy hbV
 have k0 : V.heap[s]?=some (.cells #[x,y,.int .i64 b.2.2] 25 (0,0)):=by
  rw [hV,← hs];exact ((below1 _ _).block _ (by simp)).trans (heap_alloc_new w _)
 have k1 : V.heap[s+1]?=some (.cells zB 25 (0,0)):=by
  have:=heap_alloc_new (w.alloc (.cells #[x,y,.int .i64 b.2.2] 25)) (.cells #[.slice none 0 0,.slice none 0 0,.int .i64 0] 25)
  rw [World.size_alloc,hs] at this
  rw [hV];exact this
 obtain ⟨a1,c1,rfl⟩:=hx.len
 obtain ⟨a2,c2,rfl⟩:=hy.len
 have HV:=lH hV
 have HXV:=lH hxV
 have HYV:=lH hyV
 have HK0:=lH k0
 have HK1:=lH k1
 have HC:=lH hC
 have HS:=lH hs
 rw [hs] at hbV
 clear hV hxV hyV k0 k1 hC hx hy
 go_enter Tryz.func53,Tryz.ntmps53
 go_wp2_with fail
 rw [← HV.out]
 refine (rOwnB_any B b _ V ⟨_,_,rfl,HXV.out,HYV.out⟩ (by rw [hzV];exact hBl) h1 h2 h3 h4).mono ?_
 rintro e w1 ⟨x',y',hs1,hs2,rfl,hb1,hm⟩
 obtain ⟨x1,y1,e1,hx1,hy1⟩:=hm.bl
 simp only [Value.agg.injEq,Array.mk.injEq,List.cons.injEq,and_true] at e1
 obtain ⟨rfl,rfl⟩:=e1
 obtain ⟨a3,c3,rfl⟩:=hx1.len
 obtain ⟨a4,c4,rfl⟩:=hy1.len
 have hz1:=hb1.size
 have g0:=(hb1.block s (by omega)).trans HK0.out
 have g1:=(hb1.block (s+1) (by omega)).trans HK1.out
 obtain ⟨U,hU⟩ : ∃ U,U=w1.setRow s #[.slice a3 b.1.length c3,.slice a4 b.2.1.length c4,.int .i64 b.2.2]:=⟨_,rfl⟩
 have hcf : CF B b (.slice a3 b.1.length c3) (.slice a4 b.2.1.length c4) s w U:=by rw [hU];exact CF.put g0 hlo hx1 hy1 (hbV.trans (hb1.mono (by omega)))
 have g1U : U.heap[s+1]?=some (.cells zB 25 (0,0)):=by rw [hU];exact (setRow_other w1 s (s+1) _ (by omega)).trans g1
 have hmU : MyB B V.heap.size b (.slice a3 b.1.length c3) (.slice a4 b.2.1.length c4) hs1 hs2 U:=hm.keep (hBl.mono (by omega)) (fun A hA ts ht=>by rw [hU];exact keeps_setRow _ g0 ht (by omega))
 have p0 : plain 3 w1 s=true:=by simp [Rw.plain,g0]
 have hrU : row (w1.setRow s #[.slice a3 b.1.length c3,.slice a4 b.2.1.length c4,.int .i64 b.2.2]) s=#[.slice a3 b.1.length c3,.slice a4 b.2.1.length c4,.int .i64 b.2.2]:=by rw [← hU];exact hcf.row
 have hzU : U.heap.size=w1.heap.size:=by rw [hU,setRow_size]
 have HCF:=lH hcf
 have HG1:=lH g1U
 have HU:=lH hU
 have HM:=lH hmU
 clear hm hmU hx1 hy1 g0 g1 hcf g1U hU HK0 HK1 HXV HYV
 go_wp2_with fail
 rw [← HU.out]
 refine (rRightB_any B b _ U HCF.out.bl (hBl.mono (by omega)) h1 h2 h3 h4).mono ?_
 rintro e w2 ⟨rfl,hb2⟩
 have hz2:=hb2.size
 have hcf2:=HCF.out.stays hb2
 have g1:=(hb2.block _ (by omega)).trans HG1.out
 have r0:=hcf2.row
 obtain ⟨q0,q1,q2,f0,f1,f2⟩:=hcf2.cells
 have hlt2 : s<w2.heap.size:=hcf2.lt
 clear hrU p0
 have HCF2:=lH hcf2
 have HG12:=lH g1
 have HM2:=lH (HM.out.stays hb2)
 have hl2 : s+1<w2.heap.size:=by omega
 obtain ⟨p1,z1,zb,zl⟩:=hcf2.fin1 g1
 have HZ:=lH (show _∧_∧_ from ⟨z1,zb,zl⟩)
 clear z1 zb zl hcf2 g1
 cases hright : rightB b
 ·have HC3 : Hid (C=(b,[],0,0,1)):=lH (by rw [← HC.out];unfold place;rw [hright];rfl)
  clear hright
  go_wp2
  refine bodyPost_ret (v:=.tuple #[.agg #[.slice a3 b.1.length c3,.slice a4 b.2.1.length c4,.int .i64 b.2.2],.slice none 0 0,.int .i64 0,.int .i64 0,.int .i64 1]) (ret_B5 Tryz.results53 _ _ rfl ?c1) rfl ?c3
  case c1=>first | exact HZ.out.1 | (simp only [go_sem];exact HZ.out.1)
  case c3=>rw [HC3.out];exact ⟨_,_,rfl,by rw [HS.out];exact HZ.out.2.1,HZ.out.2.2,Is.nil _ _ _ _⟩
 have HRt:=lH (rightB_iff.1 hright)
 clear hright
 by_cases d0 : ow<0
 ·have HC3 : Hid (C=(b,[],0,0,1)):=lH (by rw [← HC.out];exact place_arg (by unfold argOk;simp only [decide_eq_false_iff_not];omega))
  go_wp2
  refine bodyPost_ret (v:=.tuple #[.agg #[.slice a3 b.1.length c3,.slice a4 b.2.1.length c4,.int .i64 b.2.2],.slice none 0 0,.int .i64 0,.int .i64 0,.int .i64 1]) (ret_B5 Tryz.results53 _ _ rfl ?c1) rfl ?c3
  case c1=>first | exact HZ.out.1 | (simp only [go_sem];exact HZ.out.1)
  case c3=>rw [HC3.out];exact ⟨_,_,rfl,by rw [HS.out];exact HZ.out.2.1,HZ.out.2.2,Is.nil _ _ _ _⟩
 have fd0 : decide (ow<0)=false:=by simpa using d0
 by_cases d1 : 64≤ow
 ·have HC3 : Hid (C=(b,[],0,0,1)):=lH (by rw [← HC.out];exact place_arg (by unfold argOk;simp only [decide_eq_false_iff_not];omega))
  go_wp2
  refine bodyPost_ret (v:=.tuple #[.agg #[.slice a3 b.1.length c3,.slice a4 b.2.1.length c4,.int .i64 b.2.2],.slice none 0 0,.int .i64 0,.int .i64 0,.int .i64 1]) (ret_B5 Tryz.results53 _ _ rfl ?c1) rfl ?c3
  case c1=>first | exact HZ.out.1 | (simp only [go_sem];exact HZ.out.1)
  case c3=>rw [HC3.out];exact ⟨_,_,rfl,by rw [HS.out];exact HZ.out.2.1,HZ.out.2.2,Is.nil _ _ _ _⟩
 have fd1 : decide (64≤ow)=false:=by simpa using d1
 by_cases d2 : sd=1∨sd=2
 case neg =>
  have e1 : (sd==1)=false:=by simp;omega
  have e2 : (sd==2)=false:=by simp;omega
  have n1 : (sd != 1)=true:=by simp;omega
  have n2 : (sd != 2)=true:=by simp;omega
  have n3 : ¬ sd=1:=by omega
  have n4 : ¬ sd=2:=by omega
  have HC3 : Hid (C=(b,[],0,0,1)):=lH (by rw [← HC.out];exact place_arg (by unfold argOk;simp only [decide_eq_false_iff_not];omega))
  clear d2
  go_wp2
  refine bodyPost_ret (v:=.tuple #[.agg #[.slice a3 b.1.length c3,.slice a4 b.2.1.length c4,.int .i64 b.2.2],.slice none 0 0,.int .i64 0,.int .i64 0,.int .i64 1]) (ret_B5 Tryz.results53 _ _ rfl ?c1) rfl ?c3
  case c1=>first | exact HZ.out.1 | (simp only [go_sem];exact HZ.out.1)
  case c3=>rw [HC3.out];exact ⟨_,_,rfl,by rw [HS.out];exact HZ.out.2.1,HZ.out.2.2,Is.nil _ _ _ _⟩
 rcases d2 with d2 | d2
 ·subst d2
  by_cases d3 : p<1
  ·have HC3 : Hid (C=(b,[],0,0,1)):=lH (by rw [← HC.out];exact place_arg (by unfold argOk;simp only [decide_eq_false_iff_not];omega))
   go_wp2
   refine bodyPost_ret (v:=.tuple #[.agg #[.slice a3 b.1.length c3,.slice a4 b.2.1.length c4,.int .i64 b.2.2],.slice none 0 0,.int .i64 0,.int .i64 0,.int .i64 1]) (ret_B5 Tryz.results53 _ _ rfl ?c1) rfl ?c3
   case c1=>first | exact HZ.out.1 | (simp only [go_sem];exact HZ.out.1)
   case c3=>rw [HC3.out];exact ⟨_,_,rfl,by rw [HS.out];exact HZ.out.2.1,HZ.out.2.2,Is.nil _ _ _ _⟩
  have fd3 : decide (p<1)=false:=by simpa using d3
  by_cases d4 : 1048576<p
  ·have HC3 : Hid (C=(b,[],0,0,1)):=lH (by rw [← HC.out];exact place_arg (by unfold argOk;simp only [decide_eq_false_iff_not];omega))
   go_wp2
   refine bodyPost_ret (v:=.tuple #[.agg #[.slice a3 b.1.length c3,.slice a4 b.2.1.length c4,.int .i64 b.2.2],.slice none 0 0,.int .i64 0,.int .i64 0,.int .i64 1]) (ret_B5 Tryz.results53 _ _ rfl ?c1) rfl ?c3
   case c1=>first | exact HZ.out.1 | (simp only [go_sem];exact HZ.out.1)
   case c3=>rw [HC3.out];exact ⟨_,_,rfl,by rw [HS.out];exact HZ.out.2.1,HZ.out.2.2,Is.nil _ _ _ _⟩
  have fd4 : decide (1048576<p)=false:=by simpa using d4
  by_cases d5 : q<1
  ·have HC3 : Hid (C=(b,[],0,0,1)):=lH (by rw [← HC.out];exact place_arg (by unfold argOk;simp only [decide_eq_false_iff_not];omega))
   go_wp2
   refine bodyPost_ret (v:=.tuple #[.agg #[.slice a3 b.1.length c3,.slice a4 b.2.1.length c4,.int .i64 b.2.2],.slice none 0 0,.int .i64 0,.int .i64 0,.int .i64 1]) (ret_B5 Tryz.results53 _ _ rfl ?c1) rfl ?c3
   case c1=>first | exact HZ.out.1 | (simp only [go_sem];exact HZ.out.1)
   case c3=>rw [HC3.out];exact ⟨_,_,rfl,by rw [HS.out];exact HZ.out.2.1,HZ.out.2.2,Is.nil _ _ _ _⟩
  have fd5 : decide (q<1)=false:=by simpa using d5
  by_cases d6 : 1048576<q
  ·have HC3 : Hid (C=(b,[],0,0,1)):=lH (by rw [← HC.out];exact place_arg (by unfold argOk;simp only [decide_eq_false_iff_not];omega))
   go_wp2
   refine bodyPost_ret (v:=.tuple #[.agg #[.slice a3 b.1.length c3,.slice a4 b.2.1.length c4,.int .i64 b.2.2],.slice none 0 0,.int .i64 0,.int .i64 0,.int .i64 1]) (ret_B5 Tryz.results53 _ _ rfl ?c1) rfl ?c3
   case c1=>first | exact HZ.out.1 | (simp only [go_sem];exact HZ.out.1)
   case c3=>rw [HC3.out];exact ⟨_,_,rfl,by rw [HS.out];exact HZ.out.2.1,HZ.out.2.2,Is.nil _ _ _ _⟩
  have fd6 : decide (1048576<q)=false:=by simpa using d6
  have harg : argOk ow 1 p q=true:=argOk_iff.2 (by omega)
  have HArg:=lH harg
  have hq8 : 0≤q∧q≤1048576:=by omega
  clear harg
  have hol : ∀ o∈flat b.2.1,0≤olf o∧olf o≤1048576:=fun o ho=>by
   have:=mem_may HRt.out.sells ho
   rw [omay_iff] at this
   unfold olf;omega
  have HOl:=lH hol
  obtain ⟨T,hT⟩ : ∃ T,tr ow 1 p (flat b.2.1) q=T:=⟨_,rfl⟩
  have hpl : C=plRes b ow 1 p rest T:=by
   rw [← HC.out,place_tr HRt.out HArg.out,show oth b 1=b.2.1 from (by unfold oth;exact if_pos rfl),hT]
  have HPl:=lH hpl
  have HT:=lH hT
  clear hT hpl hol
  go_wp2_with fail
  refine (rAgainst_any (.slice a3 b.1.length c3) (.slice a4 b.2.1.length c4) b.2.2 1 w2).mono ?_
  rintro e w3 ⟨rfl,hb3⟩
  rw [if_pos rfl]
  have HCF3:=lH (HCF2.out.stays hb3)
  have hz3:=hb3.size
  clear r0 q0 q1 q2 f0 f1 f2 p1 HZ
  go_wp2_with fail
  refine (rTrades_any B b.2.1 _ ow 1 p q w3 HCF3.out.l2 (hBl.mono (by omega)) h3 h4 hq8 HOl.out).mono ?_
  rintro e w4 ⟨fv,lf,ok,rfl,hb4,hok,hx⟩
  rw [HT.out] at hok hx
  have hz4:=hb4.size
  have hb34:=nx hb3 hb4
  have HCF4:=lH (HCF3.out.stays hb4)
  have HG14:=lH ((hb34.block _ (by omega)).trans HG12.out)
  have HM4:=lH (HM2.out.stays hb34)
  have r0:=HCF4.out.row
  have hl2' : s+1<w4.heap.size:=by omega
  have hlt4 : s<w4.heap.size:=by omega
  obtain ⟨p1,z1,zb,zl⟩:=HCF4.out.fin1 HG14.out
  have HZ:=lH (show _∧_∧_ from ⟨z1,zb,zl⟩)
  clear z1 zb zl
  cases T with
  | none =>
   have hok' : ok=false:=hok
   subst hok'
   have HC3 : Hid (C=(b,[],0,0,11)):=HPl
   clear hx hok
   go_wp2
   refine bodyPost_ret (v:=.tuple #[.agg #[.slice a3 b.1.length c3,.slice a4 b.2.1.length c4,.int .i64 b.2.2],.slice none 0 0,.int .i64 0,.int .i64 0,.int .i64 11]) (ret_B5 Tryz.results53 _ _ rfl ?c1) rfl ?c3
   case c1=>first | exact HZ.out.1 | (simp only [go_sem];exact HZ.out.1)
   case c3=>rw [HC3.out];exact ⟨_,_,rfl,by rw [HS.out];exact HZ.out.2.1,HZ.out.2.2,Is.nil _ _ _ _⟩
  | some TT =>
   obtain ⟨fs,lf'⟩:=TT
   have hok' : ok=true:=hok
   subst hok'
   obtain ⟨hlf,hfl4⟩:=hx _ rfl
   simp only at hlf hfl4
   subst hlf
   have HF4:=lH hfl4
   have HTr:=lH (tr_spec (left_pos HRt.out.sells) hq8.1 HT.out)
   have hfls:=tr_fills HTr.out HOl.out
   have HFls:=lH hfls
   have hfn : fs.length≤1000000:=by have:=HTr.out.len;omega
   obtain ⟨af,nf,cf,hfv⟩ : ∃ a n c,fv=.slice a n c:=by obtain ⟨a,c,h⟩:=hfl4.len;exact ⟨a,_,c,h⟩
   subst hfv
   clear hx hok hfl4 hfls
   cases rest
   ·have HC3 : Hid (C=((b.1,fil b.2.1 fs,b.2.2),fs,lf,0,0)):=lH (by rw [HPl.out,plRes_not (by rintro ⟨h,_⟩;cases h)];unfold wout;exact congrArg (fun z=>(z,fs,lf,0,0)) (if_pos rfl))
    clear HPl
    go_wp2
    refine Rf.rg [0,1,2,3,4,5,6,7,8,9,10,11,12,13,14,15,16,17,18] ?_
    repeat (first | (refine Rf.Steps.sk ?_;simp only [Act.put,sA,sB,sC]) | (refine Rf.Steps.pu (v:=?_) ?_ ?_;rotate_left;(intro w_ hS_;skip;go_simp<;>with_reducible rfl);simp only [Act.put,sA,sB,sC]))
    refine Rf.Steps.nil (by kernel_rfl) ?_
    intro w5 hb5
    have hz5:=hb5.size
    have hcf5:=HCF4.out.stays hb5
    obtain ⟨q0,q1,q2,f0,f1,f2⟩:=hcf5.cells
    have g15:=(hb5.block _ (by omega)).trans HG14.out
    have hlt5 : s<w5.heap.size:=by omega
    have HCF5:=lH hcf5
    have HG15:=lH g15
    have HM5:=lH (HM4.out.stays hb5)
    have HF5:=lH (Is.stays eFl 91 HF4.out hb5)
    clear r0 p1 HZ hcf5 g15
    go_wp2_with fail
    refine (rFilled_any B V.heap.size b.2.1 fs _ _ hs2 w5 HM5.out.i2 HM5.out.m2 (hBl.mono (by omega)) (by omega) HF5.out h3 h4 hfn HFls.out.1 HFls.out.2 HOl.out).mono ?_
    rintro e w6 ⟨v6,rfl,hll6,hal6⟩
    have haft:=aft1 HM5.out HCF5.out HG15.out (by omega) (by omega) HF5.out hal6 hll6
    obtain ⟨a5,n5,c5,hv6⟩ : ∃ a n c,v6=.slice a n c:=by obtain ⟨a,c,h⟩:=hll6.len;exact ⟨a,_,c,h⟩
    subst hv6
    clear q0 q1 q2 f0 f1 f2
    obtain ⟨u1,u2,u3,hbk6⟩:=haft.bk
    have c6 : w6.cell? ⟨s,1,none⟩=some (#[u1,u2,u3][1]):=by simp [World.cell?,hbk6]
    have f6 : w6.frozen? ⟨s,1,none⟩=false:=by simp [World.frozen?,hbk6]
    have hl6:=haft.lt
    obtain ⟨F,hF⟩ : ∃ F,F=w6.setCell ⟨s,1,none⟩ (.slice a5 n5 c5):=⟨_,rfl⟩
    have hzF : F.heap.size=w6.heap.size:=by rw [hF];simp
    rw [← hF] at haft
    have rF : row F s=#[.slice a3 b.1.length c3,.slice a5 n5 c5,.int .i64 b.2.2]:=haft.cf.row
    obtain ⟨p1,z1,zb,zl⟩:=haft.cf.fin1 haft.g1
    have HZ:=lH (show row (F.setRow (s+1) #[.slice a3 b.1.length c3,.slice a5 n5 c5,.int .i64 b.2.2]) (s+1)=#[.slice a3 b.1.length c3,.slice a5 n5 c5,.int .i64 b.2.2]∧Below s w (F.setRow (s+1) #[.slice a3 b.1.length c3,.slice a5 n5 c5,.int .i64 b.2.2])∧BL B (b.1,fil b.2.1 fs,b.2.2) (.agg #[.slice a3 b.1.length c3,.slice a5 n5 c5,.int .i64 b.2.2]) (F.setRow (s+1) #[.slice a3 b.1.length c3,.slice a5 n5 c5,.int .i64 b.2.2])∧FL B fs (.slice af nf cf) (F.setRow (s+1) #[.slice a3 b.1.length c3,.slice a5 n5 c5,.int .i64 b.2.2]) from ⟨z1,zb,zl,Is.keep eFl 91 haft.fl (keeps_setRow _ haft.g1 (by decide) (by omega))⟩)
    rw [hF] at rF p1
    have HF:=lH hF
    clear z1 zb zl haft hF hll6 hal6 hbk6
    go_wp2
    rw [← HF.out]
    refine bodyPost_ret (v:=.tuple #[.agg #[.slice a3 b.1.length c3,.slice a5 n5 c5,.int .i64 b.2.2],.slice af nf cf,.int .i64 lf,.int .i64 0,.int .i64 0]) (ret_B5 Tryz.results53 _ _ rfl ?c1) rfl ?c3
    case c1=>first | exact HZ.out.1 | (simp only [go_sem];exact HZ.out.1)
    case c3=>rw [HC3.out];exact ⟨_,_,rfl,by rw [HS.out];exact HZ.out.2.1,HZ.out.2.2.1,HZ.out.2.2.2⟩
   ·by_cases hlf : 0<lf
    ·have fl1 : decide (0<lf)=true:=by simpa using hlf
     obtain ⟨k1,hk1⟩ : ∃ k,(flat b.1).length=k:=⟨_,rfl⟩
     obtain ⟨k2,hk2⟩ : ∃ k,(flat b.2.1).length=k:=⟨_,rfl⟩
     obtain ⟨d,hd⟩ : ∃ d,dn fs=d:=⟨_,rfl⟩
     have hd6 : d≤1000000:=by have:=HTr.out.cnt;omega
     have hK:=lH (show ∀ u,Below w4.heap.size w4 u→_∧s<u.heap.size from fun u hu=>⟨(HCF4.out.stays hu).cells,(HCF4.out.stays hu).lt⟩)
     have HK1:=lH (show ∀ u,Below w4.heap.size w4 u→Calls Tryz.prog 95 #[.slice a3 b.1.length c3] u fun e w'=>e=.returned (.int .i64 (k1 : Nat))∧Below u.heap.size u w' from fun u hu=>by
      rw [← hk1];exact rCount_any B b.1 _ u (HCF4.out.stays hu).l1 h1 h2)
     have HK2:=lH (show ∀ u,Below w4.heap.size w4 u→Calls Tryz.prog 95 #[.slice a4 b.2.1.length c4] u fun e w'=>e=.returned (.int .i64 (k2 : Nat))∧Below u.heap.size u w' from fun u hu=>by
      rw [← hk2];exact rCount_any B b.2.1 _ u (HCF4.out.stays hu).l2 h3 h4)
     have HDn:=lH (show ∀ u,Below w4.heap.size w4 u→Calls Tryz.prog 96 #[.slice af nf cf] u fun e w'=>e=.returned (.int .i64 (d : Nat))∧Below u.heap.size u w' from fun u hu=>by
      rw [← hd];exact rDone_any B fs _ u (Is.stays eFl 91 HF4.out hu) hfn)
     have hwr : IntKind.i64.wrap ((k1 : Int)+k2)=k1+k2:=IntWalk.i64_in _ (by omega)
     have hwd : IntKind.i64.wrap ((k1 : Int)+k2 - d)=k1+k2 - d:=IntWalk.i64_in _ (by omega)
     have hcnt : (cntB b : Int) - (dn fs : Nat)=(k1 : Int)+k2 - d:=by unfold cntB;rw [hk1,hk2,hd];omega
     by_cases dF : (40 : Int)≤(k1 : Int)+k2 - d
     ·have fF : decide ((40 : Int)≤IntKind.i64.wrap (IntKind.i64.wrap ((k1 : Int)+k2) - d))=true:=by rw [hwr,hwd];simpa using dF
      have HC3 : Hid (C=(b,[],0,0,10)):=lH (by rw [HPl.out,plRes_full hlf (.inl (by rw [hcnt];exact dF))])
      clear HPl
      go_wp2
      refine Rf.rg [0,1,2,3,4,5,6,7,8,9,10,11,12,13,14,15,16,17,18] ?_
      repeat (first | (refine Rf.Steps.sk ?_;simp only [Act.put,sA,sB,sC]) | (refine Rf.Steps.pu (v:=?_) ?_ ?_;rotate_left;(intro w_ hS_;have hk_:=hK.out w_ hS_;go_simp<;>with_reducible rfl);simp only [Act.put,sA,sB,sC]) | (refine Rf.Steps.ca (v:=?_) (f:=?_) (args:=?_) ?_ ?_ ?_;rotate_left 3;(intro w_ hS_;have hk_:=hK.out w_ hS_;go_simp<;>first | with_reducible rfl | (constructor<;>with_reducible rfl));(intro w_ hS_;have hk_:=hK.out w_ hS_;first | (go_at_call 95;(first | with_reducible refine (HK1.out w_ hS_).mono ?_ | with_reducible refine (HK2.out w_ hS_).mono ?_);first | (rintro e w_ ⟨rfl,rfl⟩;refine ⟨?_,Below.refl _ _⟩;with_reducible rfl) | (rintro e w_ ⟨rfl,hb_⟩;refine ⟨?_,hb_⟩;with_reducible rfl)) | (go_at_call 96;refine (HDn.out w_ hS_).mono ?_;first | (rintro e w_ ⟨rfl,rfl⟩;refine ⟨?_,Below.refl _ _⟩;with_reducible rfl) | (rintro e w_ ⟨rfl,hb_⟩;refine ⟨?_,hb_⟩;with_reducible rfl)));simp only [Act.put,sA,sB,sC]))
      refine Rf.Steps.nil (by kernel_rfl) ?_
      intro w5 hb5
      have hz5:=hb5.size
      have hcf5:=HCF4.out.stays hb5
      have g15:=(hb5.block _ (by omega)).trans HG14.out
      have hlt5 : s<w5.heap.size:=by omega
      have hl5 : s+1<w5.heap.size:=by omega
      clear r0 p1 HZ
      have r0:=hcf5.row
      obtain ⟨p1,z1,zb,zl⟩:=hcf5.fin1 g15
      have HZ:=lH (show _∧_∧_ from ⟨z1,zb,zl⟩)
      clear z1 zb zl hcf5 g15
      go_wp2
      refine bodyPost_ret (v:=.tuple #[.agg #[.slice a3 b.1.length c3,.slice a4 b.2.1.length c4,.int .i64 b.2.2],.slice none 0 0,.int .i64 0,.int .i64 0,.int .i64 10]) (ret_B5 Tryz.results53 _ _ rfl ?c1) rfl ?c3
      case c1=>first | exact HZ.out.1 | (simp only [go_sem];exact HZ.out.1)
      case c3=>rw [HC3.out];exact ⟨_,_,rfl,by rw [HS.out];exact HZ.out.2.1,HZ.out.2.2,Is.nil _ _ _ _⟩
     have fF : decide ((40 : Int)≤IntKind.i64.wrap (IntKind.i64.wrap ((k1 : Int)+k2) - d))=false:=by rw [hwr,hwd];simpa using dF
     have fF2 : decide ((40 : Int)≤(k1 : Int)+k2 - d)=false:=by simpa using dF
     have fF3 : decide ((40 : Int)≤IntKind.i64.wrap ((k1 : Int)+k2 - d))=false:=by rw [hwd];simpa using dF
     by_cases dN : b.2.2=1073741824
     ·have fN : (b.2.2==1073741824)=true:=by simpa using dN
      have HC3 : Hid (C=(b,[],0,0,10)):=lH (by rw [HPl.out,plRes_full hlf (.inr dN)])
      clear HPl dN
      go_wp2
      refine Rf.rg [0,1,2,3,4,5,6,7,8,9,10,11,12,13,14,15,16,17,18] ?_
      repeat (first | (refine Rf.Steps.sk ?_;simp only [Act.put,sA,sB,sC]) | (refine Rf.Steps.pu (v:=?_) ?_ ?_;rotate_left;(intro w_ hS_;have hk_:=hK.out w_ hS_;go_simp<;>with_reducible rfl);simp only [Act.put,sA,sB,sC]) | (refine Rf.Steps.ca (v:=?_) (f:=?_) (args:=?_) ?_ ?_ ?_;rotate_left 3;(intro w_ hS_;have hk_:=hK.out w_ hS_;go_simp<;>first | with_reducible rfl | (constructor<;>with_reducible rfl));(intro w_ hS_;have hk_:=hK.out w_ hS_;first | (go_at_call 95;(first | with_reducible refine (HK1.out w_ hS_).mono ?_ | with_reducible refine (HK2.out w_ hS_).mono ?_);first | (rintro e w_ ⟨rfl,rfl⟩;refine ⟨?_,Below.refl _ _⟩;with_reducible rfl) | (rintro e w_ ⟨rfl,hb_⟩;refine ⟨?_,hb_⟩;with_reducible rfl)) | (go_at_call 96;refine (HDn.out w_ hS_).mono ?_;first | (rintro e w_ ⟨rfl,rfl⟩;refine ⟨?_,Below.refl _ _⟩;with_reducible rfl) | (rintro e w_ ⟨rfl,hb_⟩;refine ⟨?_,hb_⟩;with_reducible rfl)));simp only [Act.put,sA,sB,sC]))
      refine Rf.Steps.nil (by kernel_rfl) ?_
      intro w5 hb5
      have hz5:=hb5.size
      have hcf5:=HCF4.out.stays hb5
      have g15:=(hb5.block _ (by omega)).trans HG14.out
      have hlt5 : s<w5.heap.size:=by omega
      have hl5 : s+1<w5.heap.size:=by omega
      clear r0 p1 HZ
      have r0:=hcf5.row
      obtain ⟨p1,z1,zb,zl⟩:=hcf5.fin1 g15
      have HZ:=lH (show _∧_∧_ from ⟨z1,zb,zl⟩)
      clear z1 zb zl hcf5 g15
      go_wp2
      refine bodyPost_ret (v:=.tuple #[.agg #[.slice a3 b.1.length c3,.slice a4 b.2.1.length c4,.int .i64 b.2.2],.slice none 0 0,.int .i64 0,.int .i64 0,.int .i64 10]) (ret_B5 Tryz.results53 _ _ rfl ?c1) rfl ?c3
      case c1=>first | exact HZ.out.1 | (simp only [go_sem];exact HZ.out.1)
      case c3=>rw [HC3.out];exact ⟨_,_,rfl,by rw [HS.out];exact HZ.out.2.1,HZ.out.2.2,Is.nil _ _ _ _⟩
     have fN : (b.2.2==1073741824)=false:=by simpa using dN
     have HC3 : Hid (C=(putB (wout b 1 fs) (b.2.2,ow,1,p,lf),fs,lf,b.2.2,0)):=lH (by rw [HPl.out,plRes_put hlf (by rw [hcnt];omega)])
     clear HPl
     go_wp2
     refine Rf.rg [0,1,2,3,4,5,6,7,8,9,10,11,12,13,14,15,16,17,18] ?_
     repeat (first | (refine Rf.Steps.sk ?_;simp only [Act.put,sA,sB,sC]) | (refine Rf.Steps.pu (v:=?_) ?_ ?_;rotate_left;(intro w_ hS_;have hk_:=hK.out w_ hS_;go_simp<;>with_reducible rfl);simp only [Act.put,sA,sB,sC]) | (refine Rf.Steps.ca (v:=?_) (f:=?_) (args:=?_) ?_ ?_ ?_;rotate_left 3;(intro w_ hS_;have hk_:=hK.out w_ hS_;go_simp<;>first | with_reducible rfl | (constructor<;>with_reducible rfl));(intro w_ hS_;have hk_:=hK.out w_ hS_;first | (go_at_call 95;(first | with_reducible refine (HK1.out w_ hS_).mono ?_ | with_reducible refine (HK2.out w_ hS_).mono ?_);first | (rintro e w_ ⟨rfl,rfl⟩;refine ⟨?_,Below.refl _ _⟩;with_reducible rfl) | (rintro e w_ ⟨rfl,hb_⟩;refine ⟨?_,hb_⟩;with_reducible rfl)) | (go_at_call 96;refine (HDn.out w_ hS_).mono ?_;first | (rintro e w_ ⟨rfl,rfl⟩;refine ⟨?_,Below.refl _ _⟩;with_reducible rfl) | (rintro e w_ ⟨rfl,hb_⟩;refine ⟨?_,hb_⟩;with_reducible rfl)));simp only [Act.put,sA,sB,sC]))
     refine Rf.Steps.nil (by kernel_rfl) ?_
     intro w5 hb5
     have hz5:=hb5.size
     have hcf5:=HCF4.out.stays hb5
     obtain ⟨q0,q1,q2,f0,f1,f2⟩:=hcf5.cells
     have g15:=(hb5.block _ (by omega)).trans HG14.out
     have hlt5 : s<w5.heap.size:=by omega
     have HCF5:=lH hcf5
     have HG15:=lH g15
     have HM5:=lH (HM4.out.stays hb5)
     have HF5:=lH (Is.stays eFl 91 HF4.out hb5)
     clear r0 p1 HZ hcf5 g15
     go_wp2_with fail
     refine (rFilled_any B V.heap.size b.2.1 fs _ _ hs2 w5 HM5.out.i2 HM5.out.m2 (hBl.mono (by omega)) (by omega) HF5.out h3 h4 hfn HFls.out.1 HFls.out.2 HOl.out).mono ?_
     rintro e w6 ⟨v6,rfl,hll6,hal6⟩
     have haft:=aft1 HM5.out HCF5.out HG15.out (by omega) (by omega) HF5.out hal6 hll6
     obtain ⟨a5,n5,c5,hv6⟩ : ∃ a n c,v6=.slice a n c:=by obtain ⟨a,c,h⟩:=hll6.len;exact ⟨a,_,c,h⟩
     subst hv6
     clear q0 q1 q2 f0 f1 f2
     obtain ⟨u1,u2,u3,hbk6⟩:=haft.bk
     have c6 : w6.cell? ⟨s,1,none⟩=some (#[u1,u2,u3][1]):=by simp [World.cell?,hbk6]
     have f6 : w6.frozen? ⟨s,1,none⟩=false:=by simp [World.frozen?,hbk6]
     have hl6:=haft.lt
     obtain ⟨F,hF⟩ : ∃ F,F=w6.setCell ⟨s,1,none⟩ (.slice a5 n5 c5):=⟨_,rfl⟩
     have hzF : F.heap.size=w6.heap.size:=by rw [hF];simp
     rw [← hF] at haft
     have rF : row F s=#[.slice a3 b.1.length c3,.slice a5 n5 c5,.int .i64 b.2.2]:=haft.cf.row
     obtain ⟨p1,z1,zb,zl⟩:=haft.cf.fin1 haft.g1
     have HFC:=lH haft.cf
     have HFG:=lH haft.g1
     have HFF:=lH haft.fl
     have HZ0:=lH (show row (F.setRow (s+1) #[.slice a3 b.1.length c3,.slice a5 n5 c5,.int .i64 b.2.2]) (s+1)=#[.slice a3 b.1.length c3,.slice a5 n5 c5,.int .i64 b.2.2]∧Below s w (F.setRow (s+1) #[.slice a3 b.1.length c3,.slice a5 n5 c5,.int .i64 b.2.2])∧BL B (b.1,fil b.2.1 fs,b.2.2) (.agg #[.slice a3 b.1.length c3,.slice a5 n5 c5,.int .i64 b.2.2]) (F.setRow (s+1) #[.slice a3 b.1.length c3,.slice a5 n5 c5,.int .i64 b.2.2])∧FL B fs (.slice af nf cf) (F.setRow (s+1) #[.slice a3 b.1.length c3,.slice a5 n5 c5,.int .i64 b.2.2]) from ⟨z1,zb,zl,Is.keep eFl 91 haft.fl (keeps_setRow _ haft.g1 (by decide) (by omega))⟩)
     have HF:=lH hF
     clear z1 zb zl haft hF hll6 hal6 hbk6
     clear rF p1 HZ0
     obtain ⟨q0,q1,q2,f0,f1,f2⟩:=HFC.out.cells
     have q2 : F.cell? ⟨s,2,none⟩=some (.int .i64 b.2.2):=q2
     have hlF : s<F.heap.size:=HFC.out.lt
     have hnx : 1≤b.2.2∧b.2.2<1073741824:=by have:=HRt.out.n1;have:=HRt.out.n2;omega
     rw [HF.out] at q0 q1 q2 f0 f1 f2
     clear q1 f1
     try simp [go_sem] at q0
     try simp [go_sem] at q2
     try simp [go_sem] at f0
     try simp [go_sem] at f2
     have hl6s : s<w6.heap.size:=by omega
     have hwn : IntKind.i64.wrap (b.2.2+1)=b.2.2+1:=IntWalk.i64_in _ (by omega)
     obtain ⟨G1,hG1⟩ : ∃ G1,G1=F.setCell ⟨s,2,none⟩ (.int .i64 (b.2.2+1)):=⟨_,rfl⟩
     have hzG1 : G1.heap.size=w6.heap.size:=by rw [hG1];simp [hzF]
     have hcG1 : CF B (b.1,fil b.2.1 fs,b.2.2+1) (.slice a3 b.1.length c3) (.slice a5 n5 c5) s w G1:=by rw [hG1];exact HFC.out.set rfl HFC.out.l1 HFC.out.l2
     have hgG1 : G1.heap[s+1]?=some (.cells zB 25 (0,0)):=by rw [hG1,Below.heap_setCell F ⟨s,2,none⟩ _ (s+1) (by show s+1≠s;omega)];exact HFG.out
     have hfG1 : FL B fs (.slice af nf cf) G1:=by rw [hG1];exact Is.keep eFl 91 HFF.out (keeps_setCell 2 _ HFC.out.bk (by decide) hlo)
     obtain ⟨G,hG⟩ : ∃ G,G=G1.alloc (.cells #[.int .i64 b.2.2,.int .i64 ow,.int .i64 1,.int .i64 p,.int .i64 lf] 70):=⟨_,rfl⟩
     have hbG : Below G1.heap.size G1 G:=hG ▸ below1 G1 _
     have hzG : G.heap.size=w6.heap.size+1:=by rw [hG];simp [hzG1]
     have HcG:=lH (hcG1.stays hbG)
     have HgG:=lH ((hbG.block _ (by omega)).trans hgG1)
     have HfG:=lH (Is.stays eFl 91 hfG1 hbG)
     have HkG : Hid (G.heap[w6.heap.size]?=some (.cells #[.int .i64 b.2.2,.int .i64 ow,.int .i64 1,.int .i64 p,.int .i64 lf] 70 (0,0))):=lH (by rw [hG,← hzG1];exact heap_alloc_new G1 _)
     have HG1':=lH hG1
     have HG:=lH hG
     have hlfq : lf≤1048576:=by
      have e1:=HTr.out.sum
      have e2:=sumQ_nn (fs:=fs) (fun f hf=>(HFls.out.2 f hf).1)
      omega
     have HPut : Hid (put b.1 (b.2.2,ow,1,p,lf)=putL 1 (b.2.2,ow,1,p,lf) b.1):=lH (by
      have e1 : rightL 1 b.1=true:=rightL_iff.2 HRt.out.buys
      have e2 : omay (b.2.2,ow,1,p,lf) 1=true:=omay_iff.2 (show 1≤b.2.2∧b.2.2≤1073741824∧0≤ow∧ow<64∧(1 : Int)=1∧1≤p∧p≤1048576∧1≤lf∧lf≤1048576 by omega)
      have e3 : fnd (flat b.1) b.2.2=none:=fnd_lt HRt.out.ltB (Int.le_refl _)
      have e4 : putE b.1 (b.2.2,ow,1,p,lf)=0:=by unfold putE;simp only [e1,e2,e3];rfl
      unfold put;rw [if_pos e4])
     clear hG1 hG hcG1 hgG1 hfG1 hlfq
     go_wp2_with fail
     rw [← HF.out,← HG1'.out,← HG.out]
     refine (rPut_any B b.1 _ _ _ _ _ _ G HcG.out.l1 (hBl.mono (by omega)) h1 h2).mono ?_
     rintro e w7 ⟨t7,rfl,hb7,hl7⟩
     rw [HPut.out] at hl7
     obtain ⟨a6,n6,c6',hv7⟩ : ∃ a n c,t7=.slice a n c:=by obtain ⟨a,c,h⟩:=hl7.len;exact ⟨a,_,c,h⟩
     subst hv7
     have hz7:=hb7.size
     have hc7:=HcG.out.stays hb7
     clear q0 q2 f0 f2 c6 f6
     obtain ⟨q0,q1,q2,f0,f1,f2⟩:=hc7.cells
     have hl7s : s<w7.heap.size:=by omega
     have hc8 : CF B (putL 1 (b.2.2,ow,1,p,lf) b.1,fil b.2.1 fs,b.2.2+1) (.slice a6 n6 c6') (.slice a5 n5 c5) s w (w7.setCell ⟨s,0,none⟩ (.slice a6 n6 c6')):=hc7.set rfl hl7 hc7.l2
     obtain ⟨F2,hF2⟩ : ∃ F2,F2=w7.setCell ⟨s,0,none⟩ (.slice a6 n6 c6'):=⟨_,rfl⟩
     have hne8 : ∀ q,q≠s→F2.heap[q]?=w7.heap[q]?:=fun q hq=>by rw [hF2];exact Below.heap_setCell w7 ⟨s,0,none⟩ _ q hq
     have hf8 : FL B fs (.slice af nf cf) F2:=by rw [hF2];exact Is.keep eFl 91 (Is.stays eFl 91 HfG.out hb7) (keeps_setCell 0 _ hc7.bk (by decide) hlo)
     rw [← hF2] at hc8
     have g8:=(hne8 (s+1) (by omega)).trans ((hb7.block _ (by omega)).trans HgG.out)
     have k8:=(hne8 w6.heap.size (by omega)).trans ((hb7.block _ (by omega)).trans HkG.out)
     have r8 : row F2 s=#[.slice a6 n6 c6',.slice a5 n5 c5,.int .i64 (b.2.2+1)]:=hc8.row
     obtain ⟨p8,z1,zb,zl⟩:=hc8.fin1 g8
     have z8 : F2.cell? ⟨w6.heap.size,0,none⟩=some (.int .i64 b.2.2):=by simp [World.cell?,k8]
     have z9 : (F2.setRow (s+1) #[.slice a6 n6 c6',.slice a5 n5 c5,.int .i64 (b.2.2+1)]).cell? ⟨w6.heap.size,0,none⟩=some (.int .i64 b.2.2):=by
      simp only [World.cell?]
      rw [setRow_other F2 (s+1) w6.heap.size _ (by omega),k8];rfl
     have HZ:=lH (show row (F2.setRow (s+1) #[.slice a6 n6 c6',.slice a5 n5 c5,.int .i64 (b.2.2+1)]) (s+1)=#[.slice a6 n6 c6',.slice a5 n5 c5,.int .i64 (b.2.2+1)]∧Below s w (F2.setRow (s+1) #[.slice a6 n6 c6',.slice a5 n5 c5,.int .i64 (b.2.2+1)]).drew∧BL B (putL 1 (b.2.2,ow,1,p,lf) b.1,fil b.2.1 fs,b.2.2+1) (.agg #[.slice a6 n6 c6',.slice a5 n5 c5,.int .i64 (b.2.2+1)]) (F2.setRow (s+1) #[.slice a6 n6 c6',.slice a5 n5 c5,.int .i64 (b.2.2+1)]).drew∧FL B fs (.slice af nf cf) (F2.setRow (s+1) #[.slice a6 n6 c6',.slice a5 n5 c5,.int .i64 (b.2.2+1)]).drew from ⟨z1,zb.drew,zl.stays (Below.refl _ _).drew,Is.stays eFl 91 (Is.keep eFl 91 hf8 (keeps_setRow _ g8 (by decide) (by omega))) (Below.refl _ _).drew⟩)
     have HC4 : Hid (C=((putL 1 (b.2.2,ow,1,p,lf) b.1,fil b.2.1 fs,b.2.2+1),fs,lf,b.2.2,0)):=lH (by rw [HC3.out];simp [putB,wout])
     have HF2:=lH hF2
     clear hc7 hc8 hne8 hf8 g8 k8 z1 zb zl hF2 hl7
     go_wp2
     rw [← HF2.out]
     go_region
     go_wp2
     refine bodyPost_ret (v:=.tuple #[.agg #[.slice a6 n6 c6',.slice a5 n5 c5,.int .i64 (b.2.2+1)],.slice af nf cf,.int .i64 lf,.int .i64 b.2.2,.int .i64 0]) (ret_B5 Tryz.results53 _ _ rfl ?c1) rfl ?c3
     case c1=>first | exact HZ.out.1 | (simp only [go_sem];exact HZ.out.1)
     case c3=>rw [HC4.out];exact ⟨_,_,rfl,by rw [HS.out];exact HZ.out.2.1,HZ.out.2.2.1,HZ.out.2.2.2⟩
    ·have fl0 : decide (0<lf)=false:=by simpa using hlf
     have HC3 : Hid (C=((b.1,fil b.2.1 fs,b.2.2),fs,lf,0,0)):=lH (by rw [HPl.out,plRes_not (by rintro ⟨_,h⟩;exact hlf h)];unfold wout;exact congrArg (fun z=>(z,fs,lf,0,0)) (if_pos rfl))
     clear HPl
     go_wp2
     refine Rf.rg [0,1,2,3,4,5,6,7,8,9,10,11,12,13,14,15,16,17,18] ?_
     repeat (first | (refine Rf.Steps.sk ?_;simp only [Act.put,sA,sB,sC]) | (refine Rf.Steps.pu (v:=?_) ?_ ?_;rotate_left;(intro w_ hS_;skip;go_simp<;>with_reducible rfl);simp only [Act.put,sA,sB,sC]))
     refine Rf.Steps.nil (by kernel_rfl) ?_
     intro w5 hb5
     have hz5:=hb5.size
     have hcf5:=HCF4.out.stays hb5
     obtain ⟨q0,q1,q2,f0,f1,f2⟩:=hcf5.cells
     have g15:=(hb5.block _ (by omega)).trans HG14.out
     have hlt5 : s<w5.heap.size:=by omega
     have HCF5:=lH hcf5
     have HG15:=lH g15
     have HM5:=lH (HM4.out.stays hb5)
     have HF5:=lH (Is.stays eFl 91 HF4.out hb5)
     clear r0 p1 HZ hcf5 g15
     go_wp2_with fail
     refine (rFilled_any B V.heap.size b.2.1 fs _ _ hs2 w5 HM5.out.i2 HM5.out.m2 (hBl.mono (by omega)) (by omega) HF5.out h3 h4 hfn HFls.out.1 HFls.out.2 HOl.out).mono ?_
     rintro e w6 ⟨v6,rfl,hll6,hal6⟩
     have haft:=aft1 HM5.out HCF5.out HG15.out (by omega) (by omega) HF5.out hal6 hll6
     obtain ⟨a5,n5,c5,hv6⟩ : ∃ a n c,v6=.slice a n c:=by obtain ⟨a,c,h⟩:=hll6.len;exact ⟨a,_,c,h⟩
     subst hv6
     clear q0 q1 q2 f0 f1 f2
     obtain ⟨u1,u2,u3,hbk6⟩:=haft.bk
     have c6 : w6.cell? ⟨s,1,none⟩=some (#[u1,u2,u3][1]):=by simp [World.cell?,hbk6]
     have f6 : w6.frozen? ⟨s,1,none⟩=false:=by simp [World.frozen?,hbk6]
     have hl6:=haft.lt
     obtain ⟨F,hF⟩ : ∃ F,F=w6.setCell ⟨s,1,none⟩ (.slice a5 n5 c5):=⟨_,rfl⟩
     have hzF : F.heap.size=w6.heap.size:=by rw [hF];simp
     rw [← hF] at haft
     have rF : row F s=#[.slice a3 b.1.length c3,.slice a5 n5 c5,.int .i64 b.2.2]:=haft.cf.row
     obtain ⟨p1,z1,zb,zl⟩:=haft.cf.fin1 haft.g1
     have HZ:=lH (show row (F.setRow (s+1) #[.slice a3 b.1.length c3,.slice a5 n5 c5,.int .i64 b.2.2]) (s+1)=#[.slice a3 b.1.length c3,.slice a5 n5 c5,.int .i64 b.2.2]∧Below s w (F.setRow (s+1) #[.slice a3 b.1.length c3,.slice a5 n5 c5,.int .i64 b.2.2])∧BL B (b.1,fil b.2.1 fs,b.2.2) (.agg #[.slice a3 b.1.length c3,.slice a5 n5 c5,.int .i64 b.2.2]) (F.setRow (s+1) #[.slice a3 b.1.length c3,.slice a5 n5 c5,.int .i64 b.2.2])∧FL B fs (.slice af nf cf) (F.setRow (s+1) #[.slice a3 b.1.length c3,.slice a5 n5 c5,.int .i64 b.2.2]) from ⟨z1,zb,zl,Is.keep eFl 91 haft.fl (keeps_setRow _ haft.g1 (by decide) (by omega))⟩)
     rw [hF] at rF p1
     have HF:=lH hF
     clear z1 zb zl haft hF hll6 hal6 hbk6
     go_wp2
     rw [← HF.out]
     refine bodyPost_ret (v:=.tuple #[.agg #[.slice a3 b.1.length c3,.slice a5 n5 c5,.int .i64 b.2.2],.slice af nf cf,.int .i64 lf,.int .i64 0,.int .i64 0]) (ret_B5 Tryz.results53 _ _ rfl ?c1) rfl ?c3
     case c1=>first | exact HZ.out.1 | (simp only [go_sem];exact HZ.out.1)
     case c3=>rw [HC3.out];exact ⟨_,_,rfl,by rw [HS.out];exact HZ.out.2.1,HZ.out.2.2.1,HZ.out.2.2.2⟩
 ·subst d2
  have e1 : ((2 : Int)==1)=false:=rfl
  have e2 : ((2 : Int)==2)=true:=rfl
  by_cases d3 : p<1
  ·have HC3 : Hid (C=(b,[],0,0,1)):=lH (by rw [← HC.out];exact place_arg (by unfold argOk;simp only [decide_eq_false_iff_not];omega))
   go_wp2
   refine bodyPost_ret (v:=.tuple #[.agg #[.slice a3 b.1.length c3,.slice a4 b.2.1.length c4,.int .i64 b.2.2],.slice none 0 0,.int .i64 0,.int .i64 0,.int .i64 1]) (ret_B5 Tryz.results53 _ _ rfl ?c1) rfl ?c3
   case c1=>first | exact HZ.out.1 | (simp only [go_sem];exact HZ.out.1)
   case c3=>rw [HC3.out];exact ⟨_,_,rfl,by rw [HS.out];exact HZ.out.2.1,HZ.out.2.2,Is.nil _ _ _ _⟩
  have fd3 : decide (p<1)=false:=by simpa using d3
  by_cases d4 : 1048576<p
  ·have HC3 : Hid (C=(b,[],0,0,1)):=lH (by rw [← HC.out];exact place_arg (by unfold argOk;simp only [decide_eq_false_iff_not];omega))
   go_wp2
   refine bodyPost_ret (v:=.tuple #[.agg #[.slice a3 b.1.length c3,.slice a4 b.2.1.length c4,.int .i64 b.2.2],.slice none 0 0,.int .i64 0,.int .i64 0,.int .i64 1]) (ret_B5 Tryz.results53 _ _ rfl ?c1) rfl ?c3
   case c1=>first | exact HZ.out.1 | (simp only [go_sem];exact HZ.out.1)
   case c3=>rw [HC3.out];exact ⟨_,_,rfl,by rw [HS.out];exact HZ.out.2.1,HZ.out.2.2,Is.nil _ _ _ _⟩
  have fd4 : decide (1048576<p)=false:=by simpa using d4
  by_cases d5 : q<1
  ·have HC3 : Hid (C=(b,[],0,0,1)):=lH (by rw [← HC.out];exact place_arg (by unfold argOk;simp only [decide_eq_false_iff_not];omega))
   go_wp2
   refine bodyPost_ret (v:=.tuple #[.agg #[.slice a3 b.1.length c3,.slice a4 b.2.1.length c4,.int .i64 b.2.2],.slice none 0 0,.int .i64 0,.int .i64 0,.int .i64 1]) (ret_B5 Tryz.results53 _ _ rfl ?c1) rfl ?c3
   case c1=>first | exact HZ.out.1 | (simp only [go_sem];exact HZ.out.1)
   case c3=>rw [HC3.out];exact ⟨_,_,rfl,by rw [HS.out];exact HZ.out.2.1,HZ.out.2.2,Is.nil _ _ _ _⟩
  have fd5 : decide (q<1)=false:=by simpa using d5
  by_cases d6 : 1048576<q
  ·have HC3 : Hid (C=(b,[],0,0,1)):=lH (by rw [← HC.out];exact place_arg (by unfold argOk;simp only [decide_eq_false_iff_not];omega))
   go_wp2
   refine bodyPost_ret (v:=.tuple #[.agg #[.slice a3 b.1.length c3,.slice a4 b.2.1.length c4,.int .i64 b.2.2],.slice none 0 0,.int .i64 0,.int .i64 0,.int .i64 1]) (ret_B5 Tryz.results53 _ _ rfl ?c1) rfl ?c3
   case c1=>first | exact HZ.out.1 | (simp only [go_sem];exact HZ.out.1)
   case c3=>rw [HC3.out];exact ⟨_,_,rfl,by rw [HS.out];exact HZ.out.2.1,HZ.out.2.2,Is.nil _ _ _ _⟩
  have fd6 : decide (1048576<q)=false:=by simpa using d6
  have harg : argOk ow 2 p q=true:=argOk_iff.2 (by omega)
  have HArg:=lH harg
  have hq8 : 0≤q∧q≤1048576:=by omega
  clear harg
  have hol : ∀ o∈flat b.1,0≤olf o∧olf o≤1048576:=fun o ho=>by
   have:=mem_may HRt.out.buys ho
   rw [omay_iff] at this
   unfold olf;omega
  have HOl:=lH hol
  obtain ⟨T,hT⟩ : ∃ T,tr ow 2 p (flat b.1) q=T:=⟨_,rfl⟩
  have hpl : C=plRes b ow 2 p rest T:=by
   rw [← HC.out,place_tr HRt.out HArg.out,show oth b 2=b.1 from (by unfold oth;exact if_neg (by decide)),hT]
  have HPl:=lH hpl
  have HT:=lH hT
  clear hT hpl hol
  go_wp2_with fail
  refine (rAgainst_any (.slice a3 b.1.length c3) (.slice a4 b.2.1.length c4) b.2.2 2 w2).mono ?_
  rintro e w3 ⟨rfl,hb3⟩
  rw [if_neg (by decide)]
  have HCF3:=lH (HCF2.out.stays hb3)
  have hz3:=hb3.size
  clear r0 q0 q1 q2 f0 f1 f2 p1 HZ
  go_wp2_with fail
  refine (rTrades_any B b.1 _ ow 2 p q w3 HCF3.out.l1 (hBl.mono (by omega)) h1 h2 hq8 HOl.out).mono ?_
  rintro e w4 ⟨fv,lf,ok,rfl,hb4,hok,hx⟩
  rw [HT.out] at hok hx
  have hz4:=hb4.size
  have hb34:=nx hb3 hb4
  have HCF4:=lH (HCF3.out.stays hb4)
  have HG14:=lH ((hb34.block _ (by omega)).trans HG12.out)
  have HM4:=lH (HM2.out.stays hb34)
  have r0:=HCF4.out.row
  have hl2' : s+1<w4.heap.size:=by omega
  have hlt4 : s<w4.heap.size:=by omega
  obtain ⟨p1,z1,zb,zl⟩:=HCF4.out.fin1 HG14.out
  have HZ:=lH (show _∧_∧_ from ⟨z1,zb,zl⟩)
  clear z1 zb zl
  cases T with
  | none =>
   have hok' : ok=false:=hok
   subst hok'
   have HC3 : Hid (C=(b,[],0,0,11)):=HPl
   clear hx hok
   go_wp2
   refine bodyPost_ret (v:=.tuple #[.agg #[.slice a3 b.1.length c3,.slice a4 b.2.1.length c4,.int .i64 b.2.2],.slice none 0 0,.int .i64 0,.int .i64 0,.int .i64 11]) (ret_B5 Tryz.results53 _ _ rfl ?c1) rfl ?c3
   case c1=>first | exact HZ.out.1 | (simp only [go_sem];exact HZ.out.1)
   case c3=>rw [HC3.out];exact ⟨_,_,rfl,by rw [HS.out];exact HZ.out.2.1,HZ.out.2.2,Is.nil _ _ _ _⟩
  | some TT =>
   obtain ⟨fs,lf'⟩:=TT
   have hok' : ok=true:=hok
   subst hok'
   obtain ⟨hlf,hfl4⟩:=hx _ rfl
   simp only at hlf hfl4
   subst hlf
   have HF4:=lH hfl4
   have HTr:=lH (tr_spec (left_pos HRt.out.buys) hq8.1 HT.out)
   have hfls:=tr_fills HTr.out HOl.out
   have HFls:=lH hfls
   have hfn : fs.length≤1000000:=by have:=HTr.out.len;omega
   obtain ⟨af,nf,cf,hfv⟩ : ∃ a n c,fv=.slice a n c:=by obtain ⟨a,c,h⟩:=hfl4.len;exact ⟨a,_,c,h⟩
   subst hfv
   clear hx hok hfl4 hfls
   cases rest
   ·have HC3 : Hid (C=((fil b.1 fs,b.2.1,b.2.2),fs,lf,0,0)):=lH (by rw [HPl.out,plRes_not (by rintro ⟨h,_⟩;cases h)];unfold wout;exact congrArg (fun z=>(z,fs,lf,0,0)) (if_neg (by decide)))
    clear HPl
    go_wp2
    refine Rf.rg [0,1,2,3,4,5,6,7,8,9,10,11,12,13,14,15,16,17,18] ?_
    repeat (first | (refine Rf.Steps.sk ?_;simp only [Act.put,sA,sB,sC]) | (refine Rf.Steps.pu (v:=?_) ?_ ?_;rotate_left;(intro w_ hS_;skip;go_simp<;>with_reducible rfl);simp only [Act.put,sA,sB,sC]))
    refine Rf.Steps.nil (by kernel_rfl) ?_
    intro w5 hb5
    have hz5:=hb5.size
    have hcf5:=HCF4.out.stays hb5
    obtain ⟨q0,q1,q2,f0,f1,f2⟩:=hcf5.cells
    have g15:=(hb5.block _ (by omega)).trans HG14.out
    have hlt5 : s<w5.heap.size:=by omega
    have HCF5:=lH hcf5
    have HG15:=lH g15
    have HM5:=lH (HM4.out.stays hb5)
    have HF5:=lH (Is.stays eFl 91 HF4.out hb5)
    clear r0 p1 HZ hcf5 g15
    go_wp2_with fail
    refine (rFilled_any B V.heap.size b.1 fs _ _ hs1 w5 HM5.out.i1 HM5.out.m1 (hBl.mono (by omega)) (by omega) HF5.out h1 h2 hfn HFls.out.1 HFls.out.2 HOl.out).mono ?_
    rintro e w6 ⟨v6,rfl,hll6,hal6⟩
    have haft:=aft2 HM5.out HCF5.out HG15.out (by omega) (by omega) HF5.out hal6 hll6
    obtain ⟨a5,n5,c5,hv6⟩ : ∃ a n c,v6=.slice a n c:=by obtain ⟨a,c,h⟩:=hll6.len;exact ⟨a,_,c,h⟩
    subst hv6
    clear q0 q1 q2 f0 f1 f2
    obtain ⟨u1,u2,u3,hbk6⟩:=haft.bk
    have c6 : w6.cell? ⟨s,0,none⟩=some (#[u1,u2,u3][0]):=by simp [World.cell?,hbk6]
    have f6 : w6.frozen? ⟨s,0,none⟩=false:=by simp [World.frozen?,hbk6]
    have hl6:=haft.lt
    obtain ⟨F,hF⟩ : ∃ F,F=w6.setCell ⟨s,0,none⟩ (.slice a5 n5 c5):=⟨_,rfl⟩
    have hzF : F.heap.size=w6.heap.size:=by rw [hF];simp
    rw [← hF] at haft
    have rF : row F s=#[.slice a5 n5 c5,.slice a4 b.2.1.length c4,.int .i64 b.2.2]:=haft.cf.row
    obtain ⟨p1,z1,zb,zl⟩:=haft.cf.fin1 haft.g1
    have HZ:=lH (show row (F.setRow (s+1) #[.slice a5 n5 c5,.slice a4 b.2.1.length c4,.int .i64 b.2.2]) (s+1)=#[.slice a5 n5 c5,.slice a4 b.2.1.length c4,.int .i64 b.2.2]∧Below s w (F.setRow (s+1) #[.slice a5 n5 c5,.slice a4 b.2.1.length c4,.int .i64 b.2.2])∧BL B (fil b.1 fs,b.2.1,b.2.2) (.agg #[.slice a5 n5 c5,.slice a4 b.2.1.length c4,.int .i64 b.2.2]) (F.setRow (s+1) #[.slice a5 n5 c5,.slice a4 b.2.1.length c4,.int .i64 b.2.2])∧FL B fs (.slice af nf cf) (F.setRow (s+1) #[.slice a5 n5 c5,.slice a4 b.2.1.length c4,.int .i64 b.2.2]) from ⟨z1,zb,zl,Is.keep eFl 91 haft.fl (keeps_setRow _ haft.g1 (by decide) (by omega))⟩)
    rw [hF] at rF p1
    have HF:=lH hF
    clear z1 zb zl haft hF hll6 hal6 hbk6
    go_wp2
    rw [← HF.out]
    refine bodyPost_ret (v:=.tuple #[.agg #[.slice a5 n5 c5,.slice a4 b.2.1.length c4,.int .i64 b.2.2],.slice af nf cf,.int .i64 lf,.int .i64 0,.int .i64 0]) (ret_B5 Tryz.results53 _ _ rfl ?c1) rfl ?c3
    case c1=>first | exact HZ.out.1 | (simp only [go_sem];exact HZ.out.1)
    case c3=>rw [HC3.out];exact ⟨_,_,rfl,by rw [HS.out];exact HZ.out.2.1,HZ.out.2.2.1,HZ.out.2.2.2⟩
   ·by_cases hlf : 0<lf
    ·have fl1 : decide (0<lf)=true:=by simpa using hlf
     obtain ⟨k1,hk1⟩ : ∃ k,(flat b.1).length=k:=⟨_,rfl⟩
     obtain ⟨k2,hk2⟩ : ∃ k,(flat b.2.1).length=k:=⟨_,rfl⟩
     obtain ⟨d,hd⟩ : ∃ d,dn fs=d:=⟨_,rfl⟩
     have hd6 : d≤1000000:=by have:=HTr.out.cnt;omega
     have hK:=lH (show ∀ u,Below w4.heap.size w4 u→_∧s<u.heap.size from fun u hu=>⟨(HCF4.out.stays hu).cells,(HCF4.out.stays hu).lt⟩)
     have HK1:=lH (show ∀ u,Below w4.heap.size w4 u→Calls Tryz.prog 95 #[.slice a3 b.1.length c3] u fun e w'=>e=.returned (.int .i64 (k1 : Nat))∧Below u.heap.size u w' from fun u hu=>by
      rw [← hk1];exact rCount_any B b.1 _ u (HCF4.out.stays hu).l1 h1 h2)
     have HK2:=lH (show ∀ u,Below w4.heap.size w4 u→Calls Tryz.prog 95 #[.slice a4 b.2.1.length c4] u fun e w'=>e=.returned (.int .i64 (k2 : Nat))∧Below u.heap.size u w' from fun u hu=>by
      rw [← hk2];exact rCount_any B b.2.1 _ u (HCF4.out.stays hu).l2 h3 h4)
     have HDn:=lH (show ∀ u,Below w4.heap.size w4 u→Calls Tryz.prog 96 #[.slice af nf cf] u fun e w'=>e=.returned (.int .i64 (d : Nat))∧Below u.heap.size u w' from fun u hu=>by
      rw [← hd];exact rDone_any B fs _ u (Is.stays eFl 91 HF4.out hu) hfn)
     have hwr : IntKind.i64.wrap ((k1 : Int)+k2)=k1+k2:=IntWalk.i64_in _ (by omega)
     have hwd : IntKind.i64.wrap ((k1 : Int)+k2 - d)=k1+k2 - d:=IntWalk.i64_in _ (by omega)
     have hcnt : (cntB b : Int) - (dn fs : Nat)=(k1 : Int)+k2 - d:=by unfold cntB;rw [hk1,hk2,hd];omega
     by_cases dF : (40 : Int)≤(k1 : Int)+k2 - d
     ·have fF : decide ((40 : Int)≤IntKind.i64.wrap (IntKind.i64.wrap ((k1 : Int)+k2) - d))=true:=by rw [hwr,hwd];simpa using dF
      have HC3 : Hid (C=(b,[],0,0,10)):=lH (by rw [HPl.out,plRes_full hlf (.inl (by rw [hcnt];exact dF))])
      clear HPl
      go_wp2
      refine Rf.rg [0,1,2,3,4,5,6,7,8,9,10,11,12,13,14,15,16,17,18] ?_
      repeat (first | (refine Rf.Steps.sk ?_;simp only [Act.put,sA,sB,sC]) | (refine Rf.Steps.pu (v:=?_) ?_ ?_;rotate_left;(intro w_ hS_;have hk_:=hK.out w_ hS_;go_simp<;>with_reducible rfl);simp only [Act.put,sA,sB,sC]) | (refine Rf.Steps.ca (v:=?_) (f:=?_) (args:=?_) ?_ ?_ ?_;rotate_left 3;(intro w_ hS_;have hk_:=hK.out w_ hS_;go_simp<;>first | with_reducible rfl | (constructor<;>with_reducible rfl));(intro w_ hS_;have hk_:=hK.out w_ hS_;first | (go_at_call 95;(first | with_reducible refine (HK1.out w_ hS_).mono ?_ | with_reducible refine (HK2.out w_ hS_).mono ?_);first | (rintro e w_ ⟨rfl,rfl⟩;refine ⟨?_,Below.refl _ _⟩;with_reducible rfl) | (rintro e w_ ⟨rfl,hb_⟩;refine ⟨?_,hb_⟩;with_reducible rfl)) | (go_at_call 96;refine (HDn.out w_ hS_).mono ?_;first | (rintro e w_ ⟨rfl,rfl⟩;refine ⟨?_,Below.refl _ _⟩;with_reducible rfl) | (rintro e w_ ⟨rfl,hb_⟩;refine ⟨?_,hb_⟩;with_reducible rfl)));simp only [Act.put,sA,sB,sC]))
      refine Rf.Steps.nil (by kernel_rfl) ?_
      intro w5 hb5
      have hz5:=hb5.size
      have hcf5:=HCF4.out.stays hb5
      have g15:=(hb5.block _ (by omega)).trans HG14.out
      have hlt5 : s<w5.heap.size:=by omega
      have hl5 : s+1<w5.heap.size:=by omega
      clear r0 p1 HZ
      have r0:=hcf5.row
      obtain ⟨p1,z1,zb,zl⟩:=hcf5.fin1 g15
      have HZ:=lH (show _∧_∧_ from ⟨z1,zb,zl⟩)
      clear z1 zb zl hcf5 g15
      go_wp2
      refine bodyPost_ret (v:=.tuple #[.agg #[.slice a3 b.1.length c3,.slice a4 b.2.1.length c4,.int .i64 b.2.2],.slice none 0 0,.int .i64 0,.int .i64 0,.int .i64 10]) (ret_B5 Tryz.results53 _ _ rfl ?c1) rfl ?c3
      case c1=>first | exact HZ.out.1 | (simp only [go_sem];exact HZ.out.1)
      case c3=>rw [HC3.out];exact ⟨_,_,rfl,by rw [HS.out];exact HZ.out.2.1,HZ.out.2.2,Is.nil _ _ _ _⟩
     have fF : decide ((40 : Int)≤IntKind.i64.wrap (IntKind.i64.wrap ((k1 : Int)+k2) - d))=false:=by rw [hwr,hwd];simpa using dF
     have fF2 : decide ((40 : Int)≤(k1 : Int)+k2 - d)=false:=by simpa using dF
     have fF3 : decide ((40 : Int)≤IntKind.i64.wrap ((k1 : Int)+k2 - d))=false:=by rw [hwd];simpa using dF
     by_cases dN : b.2.2=1073741824
     ·have fN : (b.2.2==1073741824)=true:=by simpa using dN
      have HC3 : Hid (C=(b,[],0,0,10)):=lH (by rw [HPl.out,plRes_full hlf (.inr dN)])
      clear HPl dN
      go_wp2
      refine Rf.rg [0,1,2,3,4,5,6,7,8,9,10,11,12,13,14,15,16,17,18] ?_
      repeat (first | (refine Rf.Steps.sk ?_;simp only [Act.put,sA,sB,sC]) | (refine Rf.Steps.pu (v:=?_) ?_ ?_;rotate_left;(intro w_ hS_;have hk_:=hK.out w_ hS_;go_simp<;>with_reducible rfl);simp only [Act.put,sA,sB,sC]) | (refine Rf.Steps.ca (v:=?_) (f:=?_) (args:=?_) ?_ ?_ ?_;rotate_left 3;(intro w_ hS_;have hk_:=hK.out w_ hS_;go_simp<;>first | with_reducible rfl | (constructor<;>with_reducible rfl));(intro w_ hS_;have hk_:=hK.out w_ hS_;first | (go_at_call 95;(first | with_reducible refine (HK1.out w_ hS_).mono ?_ | with_reducible refine (HK2.out w_ hS_).mono ?_);first | (rintro e w_ ⟨rfl,rfl⟩;refine ⟨?_,Below.refl _ _⟩;with_reducible rfl) | (rintro e w_ ⟨rfl,hb_⟩;refine ⟨?_,hb_⟩;with_reducible rfl)) | (go_at_call 96;refine (HDn.out w_ hS_).mono ?_;first | (rintro e w_ ⟨rfl,rfl⟩;refine ⟨?_,Below.refl _ _⟩;with_reducible rfl) | (rintro e w_ ⟨rfl,hb_⟩;refine ⟨?_,hb_⟩;with_reducible rfl)));simp only [Act.put,sA,sB,sC]))
      refine Rf.Steps.nil (by kernel_rfl) ?_
      intro w5 hb5
      have hz5:=hb5.size
      have hcf5:=HCF4.out.stays hb5
      have g15:=(hb5.block _ (by omega)).trans HG14.out
      have hlt5 : s<w5.heap.size:=by omega
      have hl5 : s+1<w5.heap.size:=by omega
      clear r0 p1 HZ
      have r0:=hcf5.row
      obtain ⟨p1,z1,zb,zl⟩:=hcf5.fin1 g15
      have HZ:=lH (show _∧_∧_ from ⟨z1,zb,zl⟩)
      clear z1 zb zl hcf5 g15
      go_wp2
      refine bodyPost_ret (v:=.tuple #[.agg #[.slice a3 b.1.length c3,.slice a4 b.2.1.length c4,.int .i64 b.2.2],.slice none 0 0,.int .i64 0,.int .i64 0,.int .i64 10]) (ret_B5 Tryz.results53 _ _ rfl ?c1) rfl ?c3
      case c1=>first | exact HZ.out.1 | (simp only [go_sem];exact HZ.out.1)
      case c3=>rw [HC3.out];exact ⟨_,_,rfl,by rw [HS.out];exact HZ.out.2.1,HZ.out.2.2,Is.nil _ _ _ _⟩
     have fN : (b.2.2==1073741824)=false:=by simpa using dN
     have HC3 : Hid (C=(putB (wout b 2 fs) (b.2.2,ow,2,p,lf),fs,lf,b.2.2,0)):=lH (by rw [HPl.out,plRes_put hlf (by rw [hcnt];omega)])
     clear HPl
     go_wp2
     refine Rf.rg [0,1,2,3,4,5,6,7,8,9,10,11,12,13,14,15,16,17,18] ?_
     repeat (first | (refine Rf.Steps.sk ?_;simp only [Act.put,sA,sB,sC]) | (refine Rf.Steps.pu (v:=?_) ?_ ?_;rotate_left;(intro w_ hS_;have hk_:=hK.out w_ hS_;go_simp<;>with_reducible rfl);simp only [Act.put,sA,sB,sC]) | (refine Rf.Steps.ca (v:=?_) (f:=?_) (args:=?_) ?_ ?_ ?_;rotate_left 3;(intro w_ hS_;have hk_:=hK.out w_ hS_;go_simp<;>first | with_reducible rfl | (constructor<;>with_reducible rfl));(intro w_ hS_;have hk_:=hK.out w_ hS_;first | (go_at_call 95;(first | with_reducible refine (HK1.out w_ hS_).mono ?_ | with_reducible refine (HK2.out w_ hS_).mono ?_);first | (rintro e w_ ⟨rfl,rfl⟩;refine ⟨?_,Below.refl _ _⟩;with_reducible rfl) | (rintro e w_ ⟨rfl,hb_⟩;refine ⟨?_,hb_⟩;with_reducible rfl)) | (go_at_call 96;refine (HDn.out w_ hS_).mono ?_;first | (rintro e w_ ⟨rfl,rfl⟩;refine ⟨?_,Below.refl _ _⟩;with_reducible rfl) | (rintro e w_ ⟨rfl,hb_⟩;refine ⟨?_,hb_⟩;with_reducible rfl)));simp only [Act.put,sA,sB,sC]))
     refine Rf.Steps.nil (by kernel_rfl) ?_
     intro w5 hb5
     have hz5:=hb5.size
     have hcf5:=HCF4.out.stays hb5
     obtain ⟨q0,q1,q2,f0,f1,f2⟩:=hcf5.cells
     have g15:=(hb5.block _ (by omega)).trans HG14.out
     have hlt5 : s<w5.heap.size:=by omega
     have HCF5:=lH hcf5
     have HG15:=lH g15
     have HM5:=lH (HM4.out.stays hb5)
     have HF5:=lH (Is.stays eFl 91 HF4.out hb5)
     clear r0 p1 HZ hcf5 g15
     go_wp2_with fail
     refine (rFilled_any B V.heap.size b.1 fs _ _ hs1 w5 HM5.out.i1 HM5.out.m1 (hBl.mono (by omega)) (by omega) HF5.out h1 h2 hfn HFls.out.1 HFls.out.2 HOl.out).mono ?_
     rintro e w6 ⟨v6,rfl,hll6,hal6⟩
     have haft:=aft2 HM5.out HCF5.out HG15.out (by omega) (by omega) HF5.out hal6 hll6
     obtain ⟨a5,n5,c5,hv6⟩ : ∃ a n c,v6=.slice a n c:=by obtain ⟨a,c,h⟩:=hll6.len;exact ⟨a,_,c,h⟩
     subst hv6
     clear q0 q1 q2 f0 f1 f2
     obtain ⟨u1,u2,u3,hbk6⟩:=haft.bk
     have c6 : w6.cell? ⟨s,0,none⟩=some (#[u1,u2,u3][0]):=by simp [World.cell?,hbk6]
     have f6 : w6.frozen? ⟨s,0,none⟩=false:=by simp [World.frozen?,hbk6]
     have hl6:=haft.lt
     obtain ⟨F,hF⟩ : ∃ F,F=w6.setCell ⟨s,0,none⟩ (.slice a5 n5 c5):=⟨_,rfl⟩
     have hzF : F.heap.size=w6.heap.size:=by rw [hF];simp
     rw [← hF] at haft
     have rF : row F s=#[.slice a5 n5 c5,.slice a4 b.2.1.length c4,.int .i64 b.2.2]:=haft.cf.row
     obtain ⟨p1,z1,zb,zl⟩:=haft.cf.fin1 haft.g1
     have HFC:=lH haft.cf
     have HFG:=lH haft.g1
     have HFF:=lH haft.fl
     have HZ0:=lH (show row (F.setRow (s+1) #[.slice a5 n5 c5,.slice a4 b.2.1.length c4,.int .i64 b.2.2]) (s+1)=#[.slice a5 n5 c5,.slice a4 b.2.1.length c4,.int .i64 b.2.2]∧Below s w (F.setRow (s+1) #[.slice a5 n5 c5,.slice a4 b.2.1.length c4,.int .i64 b.2.2])∧BL B (fil b.1 fs,b.2.1,b.2.2) (.agg #[.slice a5 n5 c5,.slice a4 b.2.1.length c4,.int .i64 b.2.2]) (F.setRow (s+1) #[.slice a5 n5 c5,.slice a4 b.2.1.length c4,.int .i64 b.2.2])∧FL B fs (.slice af nf cf) (F.setRow (s+1) #[.slice a5 n5 c5,.slice a4 b.2.1.length c4,.int .i64 b.2.2]) from ⟨z1,zb,zl,Is.keep eFl 91 haft.fl (keeps_setRow _ haft.g1 (by decide) (by omega))⟩)
     have HF:=lH hF
     clear z1 zb zl haft hF hll6 hal6 hbk6
     clear rF p1 HZ0
     obtain ⟨q0,q1,q2,f0,f1,f2⟩:=HFC.out.cells
     have q2 : F.cell? ⟨s,2,none⟩=some (.int .i64 b.2.2):=q2
     have hlF : s<F.heap.size:=HFC.out.lt
     have hnx : 1≤b.2.2∧b.2.2<1073741824:=by have:=HRt.out.n1;have:=HRt.out.n2;omega
     rw [HF.out] at q0 q1 q2 f0 f1 f2
     clear q0 f0
     try simp [go_sem] at q1
     try simp [go_sem] at q2
     try simp [go_sem] at f1
     try simp [go_sem] at f2
     have hl6s : s<w6.heap.size:=by omega
     have hwn : IntKind.i64.wrap (b.2.2+1)=b.2.2+1:=IntWalk.i64_in _ (by omega)
     obtain ⟨G1,hG1⟩ : ∃ G1,G1=F.setCell ⟨s,2,none⟩ (.int .i64 (b.2.2+1)):=⟨_,rfl⟩
     have hzG1 : G1.heap.size=w6.heap.size:=by rw [hG1];simp [hzF]
     have hcG1 : CF B (fil b.1 fs,b.2.1,b.2.2+1) (.slice a5 n5 c5) (.slice a4 b.2.1.length c4) s w G1:=by rw [hG1];exact HFC.out.set rfl HFC.out.l1 HFC.out.l2
     have hgG1 : G1.heap[s+1]?=some (.cells zB 25 (0,0)):=by rw [hG1,Below.heap_setCell F ⟨s,2,none⟩ _ (s+1) (by show s+1≠s;omega)];exact HFG.out
     have hfG1 : FL B fs (.slice af nf cf) G1:=by rw [hG1];exact Is.keep eFl 91 HFF.out (keeps_setCell 2 _ HFC.out.bk (by decide) hlo)
     obtain ⟨G,hG⟩ : ∃ G,G=G1.alloc (.cells #[.int .i64 b.2.2,.int .i64 ow,.int .i64 2,.int .i64 p,.int .i64 lf] 70):=⟨_,rfl⟩
     have hbG : Below G1.heap.size G1 G:=hG ▸ below1 G1 _
     have hzG : G.heap.size=w6.heap.size+1:=by rw [hG];simp [hzG1]
     have HcG:=lH (hcG1.stays hbG)
     have HgG:=lH ((hbG.block _ (by omega)).trans hgG1)
     have HfG:=lH (Is.stays eFl 91 hfG1 hbG)
     have HkG : Hid (G.heap[w6.heap.size]?=some (.cells #[.int .i64 b.2.2,.int .i64 ow,.int .i64 2,.int .i64 p,.int .i64 lf] 70 (0,0))):=lH (by rw [hG,← hzG1];exact heap_alloc_new G1 _)
     have HG1':=lH hG1
     have HG:=lH hG
     have hlfq : lf≤1048576:=by
      have e1:=HTr.out.sum
      have e2:=sumQ_nn (fs:=fs) (fun f hf=>(HFls.out.2 f hf).1)
      omega
     have HPut : Hid (put b.2.1 (b.2.2,ow,2,p,lf)=putL 2 (b.2.2,ow,2,p,lf) b.2.1):=lH (by
      have e1 : rightL 2 b.2.1=true:=rightL_iff.2 HRt.out.sells
      have e2 : omay (b.2.2,ow,2,p,lf) 2=true:=omay_iff.2 (show 1≤b.2.2∧b.2.2≤1073741824∧0≤ow∧ow<64∧(2 : Int)=2∧1≤p∧p≤1048576∧1≤lf∧lf≤1048576 by omega)
      have e3 : fnd (flat b.2.1) b.2.2=none:=fnd_lt HRt.out.ltS (Int.le_refl _)
      have e4 : putE b.2.1 (b.2.2,ow,2,p,lf)=0:=by unfold putE;simp only [e1,e2,e3];rfl
      unfold put;rw [if_pos e4])
     clear hG1 hG hcG1 hgG1 hfG1 hlfq
     go_wp2_with fail
     rw [← HF.out,← HG1'.out,← HG.out]
     refine (rPut_any B b.2.1 _ _ _ _ _ _ G HcG.out.l2 (hBl.mono (by omega)) h3 h4).mono ?_
     rintro e w7 ⟨t7,rfl,hb7,hl7⟩
     rw [HPut.out] at hl7
     obtain ⟨a6,n6,c6',hv7⟩ : ∃ a n c,t7=.slice a n c:=by obtain ⟨a,c,h⟩:=hl7.len;exact ⟨a,_,c,h⟩
     subst hv7
     have hz7:=hb7.size
     have hc7:=HcG.out.stays hb7
     clear q1 q2 f1 f2 c6 f6
     obtain ⟨q0,q1,q2,f0,f1,f2⟩:=hc7.cells
     have hl7s : s<w7.heap.size:=by omega
     have hc8 : CF B (fil b.1 fs,putL 2 (b.2.2,ow,2,p,lf) b.2.1,b.2.2+1) (.slice a5 n5 c5) (.slice a6 n6 c6') s w (w7.setCell ⟨s,1,none⟩ (.slice a6 n6 c6')):=hc7.set rfl hc7.l1 hl7
     obtain ⟨F2,hF2⟩ : ∃ F2,F2=w7.setCell ⟨s,1,none⟩ (.slice a6 n6 c6'):=⟨_,rfl⟩
     have hne8 : ∀ q,q≠s→F2.heap[q]?=w7.heap[q]?:=fun q hq=>by rw [hF2];exact Below.heap_setCell w7 ⟨s,1,none⟩ _ q hq
     have hf8 : FL B fs (.slice af nf cf) F2:=by rw [hF2];exact Is.keep eFl 91 (Is.stays eFl 91 HfG.out hb7) (keeps_setCell 1 _ hc7.bk (by decide) hlo)
     rw [← hF2] at hc8
     have g8:=(hne8 (s+1) (by omega)).trans ((hb7.block _ (by omega)).trans HgG.out)
     have k8:=(hne8 w6.heap.size (by omega)).trans ((hb7.block _ (by omega)).trans HkG.out)
     have r8 : row F2 s=#[.slice a5 n5 c5,.slice a6 n6 c6',.int .i64 (b.2.2+1)]:=hc8.row
     obtain ⟨p8,z1,zb,zl⟩:=hc8.fin1 g8
     have z8 : F2.cell? ⟨w6.heap.size,0,none⟩=some (.int .i64 b.2.2):=by simp [World.cell?,k8]
     have z9 : (F2.setRow (s+1) #[.slice a5 n5 c5,.slice a6 n6 c6',.int .i64 (b.2.2+1)]).cell? ⟨w6.heap.size,0,none⟩=some (.int .i64 b.2.2):=by
      simp only [World.cell?]
      rw [setRow_other F2 (s+1) w6.heap.size _ (by omega),k8];rfl
     have HZ:=lH (show row (F2.setRow (s+1) #[.slice a5 n5 c5,.slice a6 n6 c6',.int .i64 (b.2.2+1)]) (s+1)=#[.slice a5 n5 c5,.slice a6 n6 c6',.int .i64 (b.2.2+1)]∧Below s w (F2.setRow (s+1) #[.slice a5 n5 c5,.slice a6 n6 c6',.int .i64 (b.2.2+1)]).drew∧BL B (fil b.1 fs,putL 2 (b.2.2,ow,2,p,lf) b.2.1,b.2.2+1) (.agg #[.slice a5 n5 c5,.slice a6 n6 c6',.int .i64 (b.2.2+1)]) (F2.setRow (s+1) #[.slice a5 n5 c5,.slice a6 n6 c6',.int .i64 (b.2.2+1)]).drew∧FL B fs (.slice af nf cf) (F2.setRow (s+1) #[.slice a5 n5 c5,.slice a6 n6 c6',.int .i64 (b.2.2+1)]).drew from ⟨z1,zb.drew,zl.stays (Below.refl _ _).drew,Is.stays eFl 91 (Is.keep eFl 91 hf8 (keeps_setRow _ g8 (by decide) (by omega))) (Below.refl _ _).drew⟩)
     have HC4 : Hid (C=((fil b.1 fs,putL 2 (b.2.2,ow,2,p,lf) b.2.1,b.2.2+1),fs,lf,b.2.2,0)):=lH (by rw [HC3.out];simp [putB,wout])
     have HF2:=lH hF2
     clear hc7 hc8 hne8 hf8 g8 k8 z1 zb zl hF2 hl7
     go_wp2
     rw [← HF2.out]
     go_region
     go_wp2
     refine bodyPost_ret (v:=.tuple #[.agg #[.slice a5 n5 c5,.slice a6 n6 c6',.int .i64 (b.2.2+1)],.slice af nf cf,.int .i64 lf,.int .i64 b.2.2,.int .i64 0]) (ret_B5 Tryz.results53 _ _ rfl ?c1) rfl ?c3
     case c1=>first | exact HZ.out.1 | (simp only [go_sem];exact HZ.out.1)
     case c3=>rw [HC4.out];exact ⟨_,_,rfl,by rw [HS.out];exact HZ.out.2.1,HZ.out.2.2.1,HZ.out.2.2.2⟩
    ·have fl0 : decide (0<lf)=false:=by simpa using hlf
     have HC3 : Hid (C=((fil b.1 fs,b.2.1,b.2.2),fs,lf,0,0)):=lH (by rw [HPl.out,plRes_not (by rintro ⟨_,h⟩;exact hlf h)];unfold wout;exact congrArg (fun z=>(z,fs,lf,0,0)) (if_neg (by decide)))
     clear HPl
     go_wp2
     refine Rf.rg [0,1,2,3,4,5,6,7,8,9,10,11,12,13,14,15,16,17,18] ?_
     repeat (first | (refine Rf.Steps.sk ?_;simp only [Act.put,sA,sB,sC]) | (refine Rf.Steps.pu (v:=?_) ?_ ?_;rotate_left;(intro w_ hS_;skip;go_simp<;>with_reducible rfl);simp only [Act.put,sA,sB,sC]))
     refine Rf.Steps.nil (by kernel_rfl) ?_
     intro w5 hb5
     have hz5:=hb5.size
     have hcf5:=HCF4.out.stays hb5
     obtain ⟨q0,q1,q2,f0,f1,f2⟩:=hcf5.cells
     have g15:=(hb5.block _ (by omega)).trans HG14.out
     have hlt5 : s<w5.heap.size:=by omega
     have HCF5:=lH hcf5
     have HG15:=lH g15
     have HM5:=lH (HM4.out.stays hb5)
     have HF5:=lH (Is.stays eFl 91 HF4.out hb5)
     clear r0 p1 HZ hcf5 g15
     go_wp2_with fail
     refine (rFilled_any B V.heap.size b.1 fs _ _ hs1 w5 HM5.out.i1 HM5.out.m1 (hBl.mono (by omega)) (by omega) HF5.out h1 h2 hfn HFls.out.1 HFls.out.2 HOl.out).mono ?_
     rintro e w6 ⟨v6,rfl,hll6,hal6⟩
     have haft:=aft2 HM5.out HCF5.out HG15.out (by omega) (by omega) HF5.out hal6 hll6
     obtain ⟨a5,n5,c5,hv6⟩ : ∃ a n c,v6=.slice a n c:=by obtain ⟨a,c,h⟩:=hll6.len;exact ⟨a,_,c,h⟩
     subst hv6
     clear q0 q1 q2 f0 f1 f2
     obtain ⟨u1,u2,u3,hbk6⟩:=haft.bk
     have c6 : w6.cell? ⟨s,0,none⟩=some (#[u1,u2,u3][0]):=by simp [World.cell?,hbk6]
     have f6 : w6.frozen? ⟨s,0,none⟩=false:=by simp [World.frozen?,hbk6]
     have hl6:=haft.lt
     obtain ⟨F,hF⟩ : ∃ F,F=w6.setCell ⟨s,0,none⟩ (.slice a5 n5 c5):=⟨_,rfl⟩
     have hzF : F.heap.size=w6.heap.size:=by rw [hF];simp
     rw [← hF] at haft
     have rF : row F s=#[.slice a5 n5 c5,.slice a4 b.2.1.length c4,.int .i64 b.2.2]:=haft.cf.row
     obtain ⟨p1,z1,zb,zl⟩:=haft.cf.fin1 haft.g1
     have HZ:=lH (show row (F.setRow (s+1) #[.slice a5 n5 c5,.slice a4 b.2.1.length c4,.int .i64 b.2.2]) (s+1)=#[.slice a5 n5 c5,.slice a4 b.2.1.length c4,.int .i64 b.2.2]∧Below s w (F.setRow (s+1) #[.slice a5 n5 c5,.slice a4 b.2.1.length c4,.int .i64 b.2.2])∧BL B (fil b.1 fs,b.2.1,b.2.2) (.agg #[.slice a5 n5 c5,.slice a4 b.2.1.length c4,.int .i64 b.2.2]) (F.setRow (s+1) #[.slice a5 n5 c5,.slice a4 b.2.1.length c4,.int .i64 b.2.2])∧FL B fs (.slice af nf cf) (F.setRow (s+1) #[.slice a5 n5 c5,.slice a4 b.2.1.length c4,.int .i64 b.2.2]) from ⟨z1,zb,zl,Is.keep eFl 91 haft.fl (keeps_setRow _ haft.g1 (by decide) (by omega))⟩)
     rw [hF] at rF p1
     have HF:=lH hF
     clear z1 zb zl haft hF hll6 hal6 hbk6
     go_wp2
     rw [← HF.out]
     refine bodyPost_ret (v:=.tuple #[.agg #[.slice a5 n5 c5,.slice a4 b.2.1.length c4,.int .i64 b.2.2],.slice af nf cf,.int .i64 lf,.int .i64 0,.int .i64 0]) (ret_B5 Tryz.results53 _ _ rfl ?c1) rfl ?c3
     case c1=>first | exact HZ.out.1 | (simp only [go_sem];exact HZ.out.1)
     case c3=>rw [HC3.out];exact ⟨_,_,rfl,by rw [HS.out];exact HZ.out.2.1,HZ.out.2.2.1,HZ.out.2.2.2⟩
end Go.Proofs.YthecinmekoaphaaGreat.Bk
