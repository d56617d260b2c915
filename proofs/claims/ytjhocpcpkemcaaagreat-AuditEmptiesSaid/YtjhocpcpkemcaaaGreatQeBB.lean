/- The document's own: Cancel. -/
import Derived.Test.YtjhocpcpkemcaaaGreatQeZZ
import Derived.Test.YtjhocpcpkemcaaaGreatQeBA
import Derived.Test.YtjhocpcpkemcaaaGreatQeAR
set_option linter.unusedVariables false
set_option maxRecDepth 16000
set_option maxHeartbeats 32000000
namespace Go.Proofs.YtjhocpcpkemcaaaGreat.Bk
open Go.RowKit
open Rw
open Da
open Le
theorem BL.up {A B:Bs} {b:Bk} {v:Value} {w:World} (hB:A.sub B) (h:BL A b v w):BL B b v w:=by
 obtain ⟨x,y,e,h1,h2⟩:=h
 exact ⟨x,y,e,Is.up eL 106 hB h1,Is.up eL 106 hB h2⟩
structure Fin (A:Bs) (b:Bk) (x y:Value) (s:Nat) (w W:World) (r:Option Od):Prop where
 p1:plain 3 W (s+1)=true
 p2:plain 5 (W.setRow (s+1) #[x,y,.int .i64 b.2.2]) (s+2)=true
 r1:row ((W.setRow (s+1) #[x,y,.int .i64 b.2.2]).setRow (s+2) (cO r)) (s+1)=#[x,y,.int .i64 b.2.2]
 r2:row ((W.setRow (s+1) #[x,y,.int .i64 b.2.2]).setRow (s+2) (cO r)) (s+2)=cO r
 bel:Below s w ((W.setRow (s+1) #[x,y,.int .i64 b.2.2]).setRow (s+2) (cO r))
 bl:BL A b (.agg #[x,y,.int .i64 b.2.2]) ((W.setRow (s+1) #[x,y,.int .i64 b.2.2]).setRow (s+2) (cO r))
def zB:Array Value:=#[.slice none 0 0,.slice none 0 0,.int .i64 0]
theorem CF.fin {A:Bs} {b:Bk} {x y:Value} {s:Nat} {w W:World} (h:CF A b x y s w W) (g1:W.heap[s+1]?=some (.cells zB 57 (0,0))) (g2:W.heap[s+2]?=some (.cells (cO none) 74 (0,0))) (hx:A.ex (s+2)) (r:Option Od):Fin A b x y s w W r:=by
 have g2':(W.setRow (s+1) #[x,y,.int .i64 b.2.2]).heap[s+2]?=some (.cells (cO none) 74 (0,0)):=(setRow_other W (s+1) (s+2) _ (by omega)).trans g2
 have hc:=(h.otherB (k:=s+1) (by omega) g1 #[x,y,.int .i64 b.2.2]).other (k:=s+2) (by omega) hx (cO r)
 refine ⟨by unfold Rw.plain;rw [g1];rfl,by unfold Rw.plain;rw [g2'];rfl,?_,?_,hc.bel,hc.bl⟩
 ·unfold Rw.row
  rw [setRow_other _ (s+2) (s+1) _ (by omega),setRow_heap W (s+1) _ _ _ _ g1]
 ·unfold Rw.row
  rw [setRow_heap _ (s+2) _ _ _ _ g2']
theorem setRow_comm (w:World) {a b:Nat} (c d:Array Value) (h:a≠b):(w.setRow a c).setRow b d=(w.setRow b d).setRow a c:=by
 simp only [World.setRow]
 congr 1
 refine Array.ext_getElem? fun i=>?_
 simp only [Array.getElem?_modify]
 by_cases e1:a=i
 ·subst e1
  simp [h.symm]
 ·by_cases e2:b=i<;>simp [e1,e2]
theorem row_alloc (W:World) (o:Obj) {q:Nat} (h:q<W.heap.size):row (W.alloc o) q=row W q:=by unfold Rw.row;rw [(below1 W o).block q h]
def PostC (B:Bs) (c:Bk × Option Od × Int) (w:World) (e:Ending) (w':World):Prop:=∃ bv,e=.returned (.tuple #[bv,.agg (cO c.2.1),.int .i64 c.2.2])∧Below w.heap.size w w'∧BL B c.1 bv w'
theorem blk_ty {B:Bs} {Bo:Nat} {l:List Lv} {hs:List Hw} {W:World} (h:Mine B Bo l hs W):∀ b,Blk hs b→∃ cur,W.heap[b]?=some (.cells cur 74 (0,0)):=fun b hx=>by
 obtain ⟨i,y,hy,hg⟩:=hx
 have hl:=h.len
 have hil:i<l.length:=by have:=(List.getElem?_eq_some_iff.1 hy).1;omega
 obtain ⟨css,_,_,hr⟩:=(h.own i _ y (List.getElem?_eq_getElem hil) hy).2
 rcases hr.2 with ⟨e,_⟩ | ⟨g,cap,cur,e,_,hh,_⟩
 ·rw [e] at hg;cases hg
 ·rw [e] at hg
  obtain rfl:=Option.some.inj hg
  exact ⟨cur,hh⟩
theorem keeps_blk {B:Bs} {Bo:Nat} {l:List Lv} {hs:List Hw} {W W':World} {ts:List TypeId} (h:Mine B Bo l hs W) (ht:74 ∉ ts) (ha:Alt (Blk hs) W W') (A:Bs) (hA:A.lo≤Bo):Keeps A ts W W' :=
 ⟨ha.size,fun b o hb ho=>(ha.block b (Array.getElem?_eq_some_iff.1 hb).1 fun hx=>by
  obtain ⟨cur,hc⟩:=blk_ty h b hx
  rw [hb] at hc
  obtain rfl:=Option.some.inj hc
  rcases ho with ho | ⟨_,_,_,he,hm,_⟩
  ·have:=(blk_ge h b hx).1;omega
  ·simp only [Obj.cells.injEq] at he
   exact ht (he.2.1 ▸ hm)).trans hb⟩
theorem ret_B5 {fn:Func} {p q r t u:Tmp} (h:fn.results=#[.cell p 57,.tmp q,.tmp r,.tmp t,.tmp u]) (tmps:Array Value) (w:World) {cs:Array Value} (hs:cs.size=3) (hr:rowOf w (tmps.getD p undef)=cs):(results fn tmps).run Tryz.prog w=.ok (.tuple #[.agg cs,tmps.getD q undef,tmps.getD r undef,tmps.getD t undef,tmps.getD u undef]) w:=by
 obtain ⟨b,e,hl⟩:=read_cell (P:=Tryz.prog) (T:=57) (n:=2) Tryz.underlying57 rfl (by kernel_rfl) hr hs
 have hp:tmps[p]?.getD undef=.pointer (some ⟨b,0,none⟩):=by simpa using e
 simp [results,h,hp,asAddr,hl]
def plRes (b:Bk) (ow s p:Int) (rest:Bool):Option (List Fl × Int)→Pl
 | none=>(b,[],0,0,11)
 | some (fs,lf) =>
  if rest=true∧0<lf then
   if 40≤(cntB b:Int) - (dn fs:Nat)∨b.2.2=1073741824 then (b,[],0,0,10)
   else (putB (wout b s fs) (b.2.2,ow,s,p,lf),fs,lf,b.2.2,0)
  else (wout b s fs,fs,lf,0,0)
theorem plRes_not {b:Bk} {ow s p:Int} {rest:Bool} {fs:List Fl} {lf:Int} (h:¬ (rest=true∧0<lf)):plRes b ow s p rest (some (fs,lf))=(wout b s fs,fs,lf,0,0):=if_neg h
theorem plRes_full {b:Bk} {ow s p:Int} {fs:List Fl} {lf:Int} (h:0<lf) (k:40≤(cntB b:Int) - (dn fs:Nat)∨b.2.2=1073741824):plRes b ow s p true (some (fs,lf))=(b,[],0,0,10):=(if_pos ⟨rfl,h⟩).trans (if_pos k)
theorem plRes_put {b:Bk} {ow s p:Int} {fs:List Fl} {lf:Int} (h:0<lf) (k:¬ (40≤(cntB b:Int) - (dn fs:Nat)∨b.2.2=1073741824)):plRes b ow s p true (some (fs,lf))=(putB (wout b s fs) (b.2.2,ow,s,p,lf),fs,lf,b.2.2,0):=(if_pos ⟨rfl,h⟩).trans (if_neg k)
theorem place_tr {b:Bk} {ow s p q:Int} {rest:Bool} (h:RightB b) (ha:argOk ow s p q=true):place b ow s p q rest=plRes b ow s p rest (tr ow s p (flat (oth b s)) q):=by
 unfold place
 rw [rightB_iff.2 h,ha,Bool.true_and,if_pos rfl]
 cases tr ow s p (flat (oth b s)) q<;>rfl
theorem tr_fills {ow s p q:Int} {os:List Od} {fs:List Fl} {lf:Int} (h:TrS ow s p os q fs lf) (ho:∀ o∈os,0≤olf o∧olf o≤1048576) :
  (∀ i (h:i<fs.length),fs[i].2.2.2.2=false→i+1=fs.length)∧∀ f∈fs,0≤f.2.2.2.1∧f.2.2.2.1≤1048576:=by
 refine ⟨fun i hi hd=>?_,fun f hf=>?_⟩
 ·obtain ⟨h',n,e,n1,n2,_,_,n3⟩:=h.at' i hi
  rw [e] at hd
  have:n≠olf os[i]:=by simpa [mkF] using hd
  exact n3 (by omega)
 ·obtain ⟨i,hi,rfl⟩:=List.mem_iff_getElem.1 hf
  obtain ⟨h',n,e,n1,n2,_⟩:=h.at' i hi
  have:=ho _ (List.getElem_mem h')
  rw [e]
  show 0≤n∧n≤1048576
  omega
def PostPl (B:Bs) (c:Pl) (w:World) (e:Ending) (w':World):Prop:=∃ bv fv,e=.returned (.tuple #[bv,fv,.int .i64 c.2.2.1,.int .i64 c.2.2.2.1,.int .i64 c.2.2.2.2])∧Below w.heap.size w w'∧BL B c.1 bv w'∧FL B c.2.1 fv w'
theorem place_arg {b:Bk} {ow s p q:Int} {rest:Bool} (h:argOk ow s p q=false):place b ow s p q rest=(b,[],0,0,1):=by unfold place;rw [h,Bool.and_false,if_neg (by decide)]
end Go.Proofs.YtjhocpcpkemcaaaGreat.Bk
