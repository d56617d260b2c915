/- Lanes in memory. -/
import Derived.Test.YthecinmekoaphaaGreatQbZZ
import Derived.Test.YthecinmekoaphaaGreatQbAJ
import Derived.Test.YthecinmekoaphaaGreatQbAP
import Derived.Test.YthecinmekoaphaaGreatQbAR
import Derived.Test.YthecinmekoaphaaGreatQbAO
import Derived.Test.YthecinmekoaphaaGreatQbAS
import Derived.RegionTactic
set_option linter.unusedVariables false
set_option maxRecDepth 16000
set_option maxHeartbeats 32000000
namespace Go.Proofs.YthecinmekoaphaaGreat.La
open Go.RowKit
open Rw
open Da
open Le
open Bk
open Ac (Hd Pu HL pmay pmay_iff tot total giveE giveL takeE takeL)
section
variable (ρ : Operand→Value) (dst : Option Tmp) (ty : TypeId) (pos : String) (after : Array Edge) (guard : Option (Nat × Bool)) (w : World)
theorem loadN (x : Operand) (h : (rowOf w (ρ x)).size=6) : (execOp ρ { dst,op:=.load 28 x,type:=ty,pos,after,guard }).run Tryz.prog w=.ok (.value (.agg (rowOf w (ρ x)))) w :=
 exec_load (n:=5) ρ dst ty pos after guard w Tryz.underlying28 rfl (by kernel_rfl) x h
theorem storeN (p x : Operand) (h : plainAt 6 w (ρ p)=true) (hs : (ρ x).cells.size=6) (h1 : oneAll (ρ x)=true) (ha : ρ x=.agg (ρ x).cells) : (execOp ρ { dst,op:=.store 28 p x,type:=ty,pos,after,guard }).run Tryz.prog w=.ok .skip (putRow w (ρ p) (ρ x).cells) :=
 exec_store (n:=5) ρ dst ty pos after guard w (by kernel_rfl) p x h hs h1 ha
end
abbrev cN (b q : Int) (x y : Value) (n : Int) (o : Value) : Array Value:=#[.int .i64 b,.int .i64 q,x,y,.int .i64 n,o]
theorem one6 (a c d : Option Addr) (n m k n' m' k' : Nat) (x y z : Int) : oneAll (.agg #[.int .i64 x,.int .i64 y,.slice a n n',.slice c m m',.int .i64 z,.slice d k k'])=true:=by simp [oneAll,Value.cells,Value.oneCell']
theorem size6 (a b c d e f : Value) : (#[a,b,c,d,e,f] : Array Value).size=6:=rfl
attribute [go_sem ↓] loadN storeN
attribute [go_sem] one6 size6
theorem ret_N2 {fn : Func} {p q : Tmp} (h : fn.results=#[.cell p 28,.tmp q]) (tmps : Array Value) (w : World) {cs : Array Value} (hs : cs.size=6) (hr : rowOf w (tmps.getD p undef)=cs) : (results fn tmps).run Tryz.prog w=.ok (.tuple #[.agg cs,tmps.getD q undef]) w :=
 ret2 (n:=5) h Tryz.underlying28 rfl (by kernel_rfl) tmps w hs hr
theorem ret_N1 {fn : Func} {p : Tmp} (h : fn.results=#[.cell p 28]) (tmps : Array Value) (w : World) {cs : Array Value} (hs : cs.size=6) (hr : rowOf w (tmps.getD p undef)=cs) : (results fn tmps).run Tryz.prog w=.ok (.agg cs) w :=
 ret1 (n:=5) h Tryz.underlying28 rfl (by kernel_rfl) tmps w hs hr
theorem ret_N4 {fn : Func} {p q r s : Tmp} (h : fn.results=#[.cell p 28,.tmp q,.tmp r,.tmp s]) (tmps : Array Value) (w : World) {cs : Array Value} (hs : cs.size=6) (hr : rowOf w (tmps.getD p undef)=cs) : (results fn tmps).run Tryz.prog w=.ok (.tuple #[.agg cs,tmps.getD q undef,tmps.getD r undef,tmps.getD s undef]) w:=by
 obtain ⟨b,e,hl⟩:=read_cell (P:=Tryz.prog) (T:=28) (n:=5) Tryz.underlying28 rfl (by kernel_rfl) hr hs
 have hp' : tmps[p]?.getD undef=.pointer (some ⟨b,0,none⟩):=by simpa using e
 simp [results,h,hp',asAddr,hl]
theorem ret_N5 {fn : Func} {p q r s t : Tmp} (h : fn.results=#[.cell p 28,.tmp q,.tmp r,.tmp s,.tmp t]) (tmps : Array Value) (w : World) {cs : Array Value} (hs : cs.size=6) (hr : rowOf w (tmps.getD p undef)=cs) : (results fn tmps).run Tryz.prog w=.ok (.tuple #[.agg cs,tmps.getD q undef,tmps.getD r undef,tmps.getD s undef,tmps.getD t undef]) w:=by
 obtain ⟨b,e,hl⟩:=read_cell (P:=Tryz.prog) (T:=28) (n:=5) Tryz.underlying28 rfl (by kernel_rfl) hr hs
 have hp' : tmps[p]?.getD undef=.pointer (some ⟨b,0,none⟩):=by simpa using e
 simp [results,h,hp',asAddr,hl]
theorem hl_keep {lo : Nat} {l : List Hd} {v : Value} {w w' : World} (h : HL lo l v w) (hk : Da.Keeps (Bs.of lo) [55] w w') : HL lo l v w':=by
 obtain ⟨a,c,hv,h⟩:=h
 refine ⟨a,c,hv,?_⟩
 rcases h with h | ⟨b,off,ha,ht,h1,h2⟩
 ·exact .inl h
 ·have hb : w'.heap[b]?=w.heap[b]?:=by
   rw [Array.getElem?_eq_getElem h1]
   refine hk.block b _ (Array.getElem?_eq_getElem h1) (ht.imp id fun ⟨cur,e⟩=>⟨cur,_,(0,0),?_,List.mem_singleton.2 rfl,fun h=>h⟩)
   rw [Array.getElem?_eq_getElem h1] at e
   exact Option.some.inj e
  exact .inr ⟨b,off,ha,ht.imp id (fun ⟨cur,e⟩=>⟨cur,hb.trans e⟩),Nat.lt_of_lt_of_le h1 hk.size,fun i x hx j u hu=>by
   rw [World.cell?_of_block (w:=w) hb];exact h2 i x hx j u hu⟩
theorem hl_stays {lo : Nat} {l : List Hd} {v : Value} {w w' : World} (h : HL lo l v w) (hb : Below w.heap.size w w') : HL lo l v w':=Sl.SL.stays Ac.enc 3 55 l v w w' h hb
theorem hl_slice {lo : Nat} {l : List Hd} {v : Value} {w : World} (h : HL lo l v w) : ∃ a c,v=.slice a l.length c:=by
 obtain ⟨a,c,hv,_⟩:=h;exact ⟨a,c,hv⟩
def LN (B : Bs) (l : Ln) (v : Value) (w : World) : Prop:=∃ x y o,v=.agg (cN l.1 l.2.1 x y l.2.2.1.2.2 o)∧LL B l.2.2.1.1 x w∧LL B l.2.2.1.2.1 y w∧HL B.lo l.2.2.2 o w
theorem LN.open' {B : Bs} {l : Ln} {v : Value} {w : World} (h : LN B l v w) : ∃ a1 n1 c1 a2 n2 c2 a3 n3 c3,v=.agg (cN l.1 l.2.1 (.slice a1 n1 c1) (.slice a2 n2 c2) l.2.2.1.2.2 (.slice a3 n3 c3))∧l.2.2.1.1.length=n1∧l.2.2.1.2.1.length=n2∧l.2.2.2.length=n3 ∧
  LL B l.2.2.1.1 (.slice a1 n1 c1) w∧LL B l.2.2.1.2.1 (.slice a2 n2 c2) w∧HL B.lo l.2.2.2 (.slice a3 n3 c3) w:=by
 obtain ⟨x,y,o,rfl,h1,h2,h3⟩:=h
 obtain ⟨a1,c1,rfl⟩:=h1.len
 obtain ⟨a2,c2,rfl⟩:=h2.len
 obtain ⟨a3,c3,rfl⟩:=hl_slice h3
 exact ⟨a1,_,c1,a2,_,c2,a3,_,c3,rfl,rfl,rfl,rfl,h1,h2,h3⟩
structure LB (B : Bs) (l : Ln) (x y o : Value) (s : Nat) (w : World) : Prop where
 bk : w.heap[s]?=some (.cells (cN l.1 l.2.1 x y l.2.2.1.2.2 o) 28 (0,0))
 lo : B.lo≤s
 l1 : LL B l.2.2.1.1 x w
 l2 : LL B l.2.2.1.2.1 y w
 l3 : HL B.lo l.2.2.2 o w
theorem LB.lt {B : Bs} {l : Ln} {x y o : Value} {s : Nat} {w : World} (h : LB B l x y o s w) : s<w.heap.size:=(Array.getElem?_eq_some_iff.1 h.bk).1
theorem LB.stays {B : Bs} {l : Ln} {x y o : Value} {s : Nat} {w w' : World} (h : LB B l x y o s w) (hb : Below w.heap.size w w') : LB B l x y o s w' :=
 ⟨(hb.block s h.lt).trans h.bk,h.lo,Is.stays eL 98 h.l1 hb,Is.stays eL 98 h.l2 hb,hl_stays h.l3 hb⟩
theorem LB.row {B : Bs} {l : Ln} {x y o : Value} {s : Nat} {w : World} (h : LB B l x y o s w) : row w s=cN l.1 l.2.1 x y l.2.2.1.2.2 o:=by unfold Rw.row;rw [h.bk]
theorem LB.plain {B : Bs} {l : Ln} {x y o : Value} {s : Nat} {w : World} (h : LB B l x y o s w) : plain 6 w s=true:=by unfold Rw.plain;rw [h.bk];rfl
theorem LB.ln {B : Bs} {l : Ln} {x y o : Value} {s : Nat} {w : World} (h : LB B l x y o s w) : LN B l (.agg (cN l.1 l.2.1 x y l.2.2.1.2.2 o)) w:=⟨x,y,o,rfl,h.l1,h.l2,h.l3⟩
theorem LB.bl {B : Bs} {l : Ln} {x y o : Value} {s : Nat} {w : World} (h : LB B l x y o s w) : BL B l.2.2.1 (.agg #[x,y,.int .i64 l.2.2.1.2.2]) w:=⟨x,y,rfl,h.l1,h.l2⟩
theorem LB.cells {B : Bs} {l : Ln} {x y o : Value} {s : Nat} {w : World} (h : LB B l x y o s w) : w.cell? ⟨s,0,none⟩=some (.int .i64 l.1)∧w.cell? ⟨s,1,none⟩=some (.int .i64 l.2.1)∧w.cell? ⟨s,2,none⟩=some x∧w.cell? ⟨s,3,none⟩=some y∧w.cell? ⟨s,4,none⟩=some (.int .i64 l.2.2.1.2.2)∧w.cell? ⟨s,5,none⟩=some o:=by
 refine ⟨?_,?_,?_,?_,?_,?_⟩<;>simp [World.cell?,h.bk,cN]
theorem LB.free {B : Bs} {l : Ln} {x y o : Value} {s : Nat} {w : World} (h : LB B l x y o s w) (k : Nat) : w.frozen? ⟨s,k,none⟩=false:=by simp [World.frozen?,h.bk]
theorem LB.made {B : Bs} {l : Ln} {x y o : Value} {w : World} (h1 : LL B l.2.2.1.1 x w) (h2 : LL B l.2.2.1.2.1 y w) (h3 : HL B.lo l.2.2.2 o w) (hB : B.lo≤w.heap.size) : LB B l x y o w.heap.size (w.alloc (.cells (cN l.1 l.2.1 x y l.2.2.1.2.2 o) 28)) :=
 ⟨heap_alloc_new w _,hB,Is.stays eL 98 h1 (below1 _ _),Is.stays eL 98 h2 (below1 _ _),hl_stays h3 (below1 _ _)⟩
theorem setN {w : World} {s : Nat} {cs : Array Value} {t : TypeId} {fr : Nat × Nat} (k : Nat) (v : Value) (h : w.heap[s]?=some (.cells cs t fr)) : (w.setCell ⟨s,k,none⟩ v).heap[s]?=some (.cells (cs.setIfInBounds k v) t fr):=by
 simp only [World.setCell,Array.getElem?_modify,if_true,h]
 rfl
theorem LB.set {B : Bs} {l m : Ln} {x y o x' y' o' : Value} {s : Nat} {w : World} (k : Nat) (v : Value) (h : LB B l x y o s w) (hc : cN m.1 m.2.1 x' y' m.2.2.1.2.2 o'=(cN l.1 l.2.1 x y l.2.2.1.2.2 o).setIfInBounds k v) (h1 : LL B m.2.2.1.1 x' w) (h2 : LL B m.2.2.1.2.1 y' w) (h3 : HL B.lo m.2.2.2 o' w) : LB B m x' y' o' s (w.setCell ⟨s,k,none⟩ v) :=
 ⟨by rw [hc];exact setN k v h.bk,h.lo,Is.keep eL 98 h1 (keeps_setCell k v h.bk (by decide) h.lo),Is.keep eL 98 h2 (keeps_setCell k v h.bk (by decide) h.lo),hl_keep h3 (keeps_setCell k v h.bk (by decide) h.lo)⟩
theorem LB.put {B : Bs} {m : Ln} {x' y' o' : Value} {s : Nat} {w : World} {c : Array Value} (h : w.heap[s]?=some (.cells c 28 (0,0))) (lo : B.lo≤s) (h1 : LL B m.2.2.1.1 x' w) (h2 : LL B m.2.2.1.2.1 y' w) (h3 : HL B.lo m.2.2.2 o' w) : LB B m x' y' o' s (w.setRow s (cN m.1 m.2.1 x' y' m.2.2.1.2.2 o')) :=
 ⟨setRow_heap w s _ _ _ _ h,lo,Is.keep eL 98 h1 (keeps_setRow _ h (by decide) lo),Is.keep eL 98 h2 (keeps_setRow _ h (by decide) lo),hl_keep h3 (keeps_setRow _ h (by decide) lo)⟩
theorem LB.other {B : Bs} {l : Ln} {x y o : Value} {s k : Nat} {w : World} {c0 : Array Value} (h : LB B l x y o s w) (hne : k≠s) (lo : B.lo≤k) (hk : w.heap[k]?=some (.cells c0 28 (0,0))) (c : Array Value) : LB B l x y o s (w.setRow k c) :=
 ⟨(setRow_other w k s c (fun e=>hne e.symm)).trans h.bk,h.lo,Is.keep eL 98 h.l1 (keeps_setRow _ hk (by decide) lo),Is.keep eL 98 h.l2 (keeps_setRow _ hk (by decide) lo),hl_keep h.l3 (keeps_setRow _ hk (by decide) lo)⟩
theorem LB.otherC {B : Bs} {l : Ln} {x y o : Value} {s k i : Nat} {v : Value} {w : World} {c0 : Array Value} (h : LB B l x y o s w) (hne : k≠s) (lo : B.lo≤k) (hk : w.heap[k]?=some (.cells c0 28 (0,0))) : LB B l x y o s (w.setCell ⟨k,i,none⟩ v) :=
 ⟨(Below.heap_setCell w ⟨k,i,none⟩ v s (fun e=>hne e.symm)).trans h.bk,h.lo,Is.keep eL 98 h.l1 (keeps_setCell i v hk (by decide) lo),Is.keep eL 98 h.l2 (keeps_setCell i v hk (by decide) lo),hl_keep h.l3 (keeps_setCell i v hk (by decide) lo)⟩
def eH : Enc Hd:=Enc.flat 3 Ac.enc (fun _=>rfl) (fun o u hu=>by simp [Ac.enc] at hu;rcases hu with rfl | rfl | rfl<;>rfl)
theorem elemH : Elem Tryz.prog 26 55 eH.k 24:=elem_of Tryz.underlying26 Ac.infoH rfl (by decide)
theorem typesH : 55 ∉ eH.ts:=by decide
theorem hl_is {lo : Nat} {l : List Hd} {v : Value} {w : World} (h : HL lo l v w) : Is eH 55 (Bs.of lo) l v w:=by
 obtain ⟨a,c,hv,h⟩:=h
 refine ⟨a,c,hv,?_⟩
 rcases h with h | ⟨b,off,ha,ht,h1,h2⟩
 ·exact .inl h
 ·exact .inr ⟨b,off,ha,h1,ht.imp id (fun h=>⟨h,fun h=>h⟩),fun i x hx=>⟨Ac.enc x,rfl,fun j u hu=>h2 i x hx j u hu⟩⟩
theorem is_hl {lo : Nat} {l : List Hd} {v : Value} {w : World} (h : Is eH 55 (Bs.of lo) l v w) : HL lo l v w:=by
 obtain ⟨a,c,hv,h⟩:=h
 refine ⟨a,c,hv,?_⟩
 rcases h with h | ⟨b,off,ha,h1,ht,h2⟩
 ·exact .inl h
 ·have ht2 : b<lo∨∃ cur,w.heap[b]?=some (.cells cur 55 (0,0)):=by
   rcases ht with ht | ⟨ht,_⟩
   ·exact .inl ht
   ·exact .inr ht
  exact .inr ⟨b,off,ha,ht2,h1,fun i x hx j u hu=>by
   obtain ⟨cs,rfl,hc⟩:=h2 i x hx
   exact hc j u hu⟩
theorem own_h {lo : Nat} {l : List Hd} {v : Value} {w : World} (h : HL lo l v w) (hlo : lo≤w.heap.size) (hm : l.length≤1000000) :
  ∃ a c w',appRun Tryz.prog 26 26 (.slice (some ⟨w.heap.size,0,none⟩) 0 0) v (w.alloc (.cells #[] 55))=.ok (.slice a l.length c) w'∧HL lo l (.slice a l.length c) w'∧Below w.heap.size w w':=by
 have hb:=below1 w (.cells #[] 55)
 obtain ⟨v',w',hrun,hown,_,hbl,_⟩:=Own.append elemH 26 typesH (B:=Bs.of lo) (Bo:=w.heap.size) (l:=[]) ⟨hlo,fun _ h=>h.elim⟩ hb.size (Own.made _ w _ (Nat.le_refl _)) (Is.stays eH 55 (hl_is h) hb) (by simp;omega) (by decide)
 have hi:=hown.is (by decide) (show (Bs.of lo).le w.heap.size from ⟨hlo,fun _ h=>h.elim⟩)
 rw [List.nil_append] at hi
 obtain ⟨a,c,rfl⟩:=hi.len
 exact ⟨a,c,w',hrun,is_hl hi,hbl _ _ (Nat.le_refl _) hb⟩
theorem newN_ok {b q : Int} (h : pairOk b q=true) : newN b q=(b,q,([],[],1),[])∧newE b q=0:=⟨if_pos h,if_pos h⟩
theorem newN_no {b q : Int} (h : pairOk b q=false) : newN b q=(0,0,([],[],0),[])∧newE b q=1:=⟨if_neg (by rw [h];decide),if_neg (by rw [h];decide)⟩
abbrev nilN (b q n : Int) : Array Value:=cN b q (.slice none 0 0) (.slice none 0 0) n (.slice none 0 0)
def nwC (b q : Int) : Array Value:=if pairOk b q=true then nilN b q 1 else nilN 0 0 0
theorem rNew10_ok (b q : Int) (w : World) (h : pairOk b q=true) : Calls Tryz.prog 8 #[.int .i64 b,.int .i64 q] w fun e w'=>e=.returned (.tuple #[.agg (nilN b q 1),.int .i64 0])∧Below w.heap.size w w':=by
 obtain ⟨h1,h2,h3,h4,h5⟩:=pairOk_iff.1 h
 have d1 : decide (b<0)=false:=decide_eq_false (by omega)
 have d2 : decide (8≤b)=false:=decide_eq_false (by omega)
 have d3 : decide (q<0)=false:=decide_eq_false (by omega)
 have d4 : decide (8≤q)=false:=decide_eq_false (by omega)
 have d5 : (b==q)=false:=by simpa using h5
 clear h
 go_enter Tryz.func8,Tryz.ntmps8
 go_wp2_with fail
 refine (rNew_any _).mono ?_
 rintro e w1 ⟨rfl,hb1⟩
 have hz:=hb1.size
 simp only [World.size_alloc] at hz
 have p1 : plain 6 w1 w.heap.size=true:=by
  rw [(bcell hb1).2.2.2 _ _ (by simp)];simp [go_sem]
 have z1 : w.heap.size<w1.heap.size:=by omega
 have HB:=lH (nx (below1 w _) hb1)
 clear hb1
 go_wp2
 refine bodyPost_ret (v:=.tuple #[.agg (nilN b q 1),.int .i64 0]) (ret_N2 Tryz.results8 _ _ rfl ?c1) rfl ⟨rfl,below_setRow HB.out (Nat.le_refl _) _⟩
 case c1=>exact row_set _ p1
theorem rNew10_no (b q : Int) (w : World) (h : pairOk b q=false) : Calls Tryz.prog 8 #[.int .i64 b,.int .i64 q] w fun e w'=>e=.returned (.tuple #[.agg (nilN 0 0 0),.int .i64 1])∧Below w.heap.size w w':=by
 have hn : ¬ (0≤b∧b<8∧0≤q∧q<8∧b≠q):=fun k=>by rw [pairOk_iff.2 k] at h;cases h
 clear h
 by_cases h1 : b<0
 ·have d1 : decide (b<0)=true:=decide_eq_true h1
  clear hn
  go_enter Tryz.func8,Tryz.ntmps8
  go_wp2
  exact bodyPost_ret (v:=.tuple #[.agg (nilN 0 0 0),.int .i64 1]) (ret_N2 Tryz.results8 _ _ rfl (by simp [go_sem])) rfl ⟨rfl,below1 _ _⟩
 ·have d1 : decide (b<0)=false:=decide_eq_false h1
  by_cases h2 : 8≤b
  ·have d2 : decide (8≤b)=true:=decide_eq_true h2
   clear hn h1
   go_enter Tryz.func8,Tryz.ntmps8
   go_wp2
   exact bodyPost_ret (v:=.tuple #[.agg (nilN 0 0 0),.int .i64 1]) (ret_N2 Tryz.results8 _ _ rfl (by simp [go_sem])) rfl ⟨rfl,below1 _ _⟩
  ·have d2 : decide (8≤b)=false:=decide_eq_false h2
   by_cases h3 : q<0
   ·have d3 : decide (q<0)=true:=decide_eq_true h3
    clear hn h1 h2
    go_enter Tryz.func8,Tryz.ntmps8
    go_wp2
    exact bodyPost_ret (v:=.tuple #[.agg (nilN 0 0 0),.int .i64 1]) (ret_N2 Tryz.results8 _ _ rfl (by simp [go_sem])) rfl ⟨rfl,below1 _ _⟩
   ·have d3 : decide (q<0)=false:=decide_eq_false h3
    by_cases h4 : 8≤q
    ·have d4 : decide (8≤q)=true:=decide_eq_true h4
     clear hn h1 h2 h3
     go_enter Tryz.func8,Tryz.ntmps8
     go_wp2
     exact bodyPost_ret (v:=.tuple #[.agg (nilN 0 0 0),.int .i64 1]) (ret_N2 Tryz.results8 _ _ rfl (by simp [go_sem])) rfl ⟨rfl,below1 _ _⟩
    ·have d4 : decide (8≤q)=false:=decide_eq_false h4
     have d5 : (b==q)=true:=by
      have : b=q:=by omega
      simpa using this
     clear hn h1 h2 h3 h4
     go_enter Tryz.func8,Tryz.ntmps8
     go_wp2
     exact bodyPost_ret (v:=.tuple #[.agg (nilN 0 0 0),.int .i64 1]) (ret_N2 Tryz.results8 _ _ rfl (by simp [go_sem])) rfl ⟨rfl,below1 _ _⟩
theorem rNew10_any (b q : Int) (w : World) : Calls Tryz.prog 8 #[.int .i64 b,.int .i64 q] w fun e w'=>e=.returned (.tuple #[.agg (nwC b q),.int .i64 (newE b q)])∧Below w.heap.size w w':=by
 unfold nwC newE
 cases h : pairOk b q
 ·rw [if_neg (by decide),if_neg (by decide)];exact rNew10_no b q w h
 ·rw [if_pos rfl,if_pos rfl];exact rNew10_ok b q w h
theorem rNeeds_any (b q s p n : Int) (x y o : Value) (k : Int) (w : World) (hp : 0≤p∧p≤1048576) (hn : 0≤n∧n≤1048576) :
  Calls Tryz.prog 43 #[.agg #[.int .i64 b,.int .i64 q,x,y,.int .i64 k,o],.int .i64 s,.int .i64 p,.int .i64 n] w fun e w'=>e=.returned (.tuple #[.int .i64 (ndA b q s),.int .i64 (ndN s p n)])∧Below w.heap.size w w':=by
 have hm:=mul_bd hp.1 hp.2 hn.1 hn.2
 obtain ⟨m,hpm⟩ : ∃ m,p*n=m:=⟨_,rfl⟩
 rw [hpm] at hm
 by_cases h : s=1
 ·have hd : (s==1)=true:=by simpa using h
  have H1 : Hid (ndA b q s=q):=lH (if_pos h)
  have H2 : Hid (ndN s p n=m):=lH ((if_pos h).trans hpm)
  clear h hp hn
  go_enter Tryz.func43,Tryz.ntmps43
  go_wp2
  go_ret2
  exact ⟨by rw [H1.out,H2.out];rfl,below1 _ _⟩
 ·have hd : (s==1)=false:=by simpa using h
  have H1 : Hid (ndA b q s=b):=lH (if_neg h)
  have H2 : Hid (ndN s p n=n):=lH (if_neg h)
  clear h hp hn hpm hm
  go_enter Tryz.func43,Tryz.ntmps43
  go_wp2
  go_ret2
  exact ⟨by rw [H1.out,H2.out];rfl,below1 _ _⟩
theorem rLevels10_any (B : Bs) (l : List Lv) (v : Value) (w : World) (h : LL B l v w) (hB : B.le w.heap.size) (hm : l.length≤1000000) (hf : (flat l).length≤1000000) :
  Calls Tryz.prog 72 #[v] w (Post (fun v w'=>∃ hs,Is eF 98 B hs v w'∧Mine B w.heap.size l hs w') w):=by
 rcases h.cases with ⟨rfl,a,c,rfl⟩ | ⟨hne,b,off,c,rfl,hat⟩
 ·clear h
  go_enter Tryz.func72,Tryz.ntmps72
  go_wp2
  go_loopw [3,8] (fun t i wr=>i=.int .i64 0∧t=.slice none 0 0∧Below w.heap.size w wr) (fun _ i _=>0)
  case atStart=>exact ⟨rfl,rfl,Below.refl _ _⟩
  case round =>
   obtain ⟨rfl,rfl,hb⟩:=hrel
   go_wp2
   go_ret
   exact ⟨_,rfl,hb,[],Is.nil _ _ _ _,Mine.nil _ _ _⟩
 ·have hbb : b<w.heap.size:=hat.1
  have HA:=lH hat
  have HF:=lH hf
  obtain ⟨n,hn⟩ : ∃ n,n=l.length:=⟨_,rfl⟩
  rw [← hn] at hm ⊢
  have HN:=lH hn
  clear h hat hn hne hf
  go_enter Tryz.func72,Tryz.ntmps72
  go_wp2
  go_loopw [3,8] (fun t i wr=>∃ k : Nat,k≤n∧i=.int .i64 k∧Below w.heap.size w wr∧∃ hs,OwnF B w.heap.size hs t wr∧Mine B w.heap.size (l.take k) hs wr) (fun _ i _=>n - (intOf i).toNat)
  case atStart=>exact ⟨0,Nat.zero_le _,rfl,Below.refl _ _,[],Own.nil _ _ _,Mine.nil _ _ _⟩
  case round =>
   obtain ⟨k,hk,rfl,hb,hs,hown,hmine⟩:=hrel
   have HO:=lH hown
   have HM:=lH hmine
   clear hown hmine
   by_cases hlt : k<n
   ·have hlt2 : (k : Int)<n:=by omega
    have hkl : k<l.length:=by rw [← HN.out];exact hlt
    obtain ⟨x,q0,q1,hx⟩:=atL HA.out k hkl
    obtain ⟨c1,f1,r1,p1⟩:=bcell hb
    obtain ⟨⟨pr,os⟩,hlk⟩ : ∃ y,l[k]=y:=⟨_,rfl⟩
    have ht:=take_all hkl
    have hle:=flat_take_le l (k+1)
    rw [flat_take_snoc hkl,List.length_append] at hle
    rw [hlk] at q0 hx ht hle
    simp only at q0 hx ht hle
    have HT:=lH ht
    have HS : Hid (os.length≤1000000):=lH (by have:=HF.out;omega)
    clear ht hle hlk
    obtain ⟨a2,c2,rfl⟩:=hx.len
    obtain ⟨V,hV⟩ : ∃ V,V=wr.alloc (.cells #[.int .i64 pr,.slice a2 os.length c2] 98):=⟨_,rfl⟩
    have hbV : Below wr.heap.size wr V:=hV ▸ below1 wr _
    have hsz:=hb.size
    have hzV : wr.heap.size<V.heap.size:=by rw [hV];simp
    have s0 : V.cell? ⟨wr.heap.size,0,none⟩=some (.int .i64 pr):=by rw [hV];simp [go_sem]
    have s1 : V.cell? ⟨wr.heap.size,1,none⟩=some (.slice a2 os.length c2):=by rw [hV];simp [go_sem]
    have hbw:=nx hb hbV
    have HX:=lH (Is.stays eO 70 (Is.stays eO 70 hx hb) hbV)
    have HOV:=lH (HO.out.stays hbV)
    have HMV:=lH (HM.out.stays hbV)
    have hne : some wr.heap.size≠u3.ownBlock:=fun e=>by have:=(Own.block HO.out _ e.symm).2;omega
    have hF : ∀ u,V.grownBy u u3.ownBlock→u.cell? ⟨wr.heap.size,0,none⟩=some (.int .i64 pr)∧u.cell? ⟨wr.heap.size,1,none⟩=some (.slice a2 os.length c2):=fun u hu =>
     ⟨by rw [grown_cell hu hzV hne];exact s0,by rw [grown_cell hu hzV hne];exact s1⟩
    clear hx
    go_wp2
    rw [← hV]
    clear s0 s1 hV
    refine Rh.rg (fun u=>V.grownBy u u3.ownBlock) (fun u=>Below V.heap.size V u) (grown_stays V _) (fun _ _ h k=>nx h k) (grown_drew V _) ((Below.refl _ _).drew) [0,1,2,4,5,3,6,7,8,9,10] ?_
    repeat (first | (refine Rh.Steps.sk ?_;simp only [Act.put,sA,sB,sC]) | (refine Rh.Steps.pu (v:=?_) ?_ ?_;rotate_left;(intro w_ hS_;have hk_:=hF w_ hS_;go_simp<;>with_reducible rfl);simp only [Act.put,sA,sB,sC]))
    refine Rh.Steps.forced (i:=3) (by kernel_rfl) ?_
    refine Rh.One.val (fun v u=>OwnO B V.heap.size [] v u) (fun v _ _ h k=>h.stays k) (by rfl) (by rfl) ?_ ?_
    ·intro w_ hS_ hG_
     refine ⟨_,_,?_,below1 w_ (.cells #[] 70),Own.made B w_ V.heap.size hS_.size⟩
     go_simp
    intro v1 u1 hv1
    simp only [Act.put,sA,sB,sC]
    refine Rh.Steps.forced (i:=6) (by kernel_rfl) ?_
    refine Rh.One.new (fun v u=>Below V.heap.size V u∧OwnO B V.heap.size os v u) (fun v _ _ h k=>⟨nx h.1 k,h.2.stays k⟩) (by rfl) (by rfl) ?_ ?_
    ·intro w_ hS_ hG_
     obtain ⟨v2,w2,hrun,hown2,hg2,hbl,_⟩:=Own.append elemO 64 typesO (hB.mono hbw.size) hS_.size hG_.2 (Is.stays eO 70 HX.out hG_.1) (by have:=HS.out;simp;omega) (by omega)
     have hb2:=hbl _ _ (Nat.le_refl _) hG_.1
     refine ⟨v2,w2,?_,grown_below _ hb2,hb2,by simpa using hown2⟩
     go_simp
    intro v2 u2 hv2
    simp only [Act.put,sA,sB,sC]
    obtain ⟨a3,n3,c3,rfl⟩ : ∃ a n c,v2=.slice a n c:=by obtain ⟨a,c,h⟩:=(hv2.2.is (by decide) (hB.mono hbw.size)).len;exact ⟨a,_,c,h⟩
    repeat (first | (refine Rh.Steps.sk ?_;simp only [Act.put,sA,sB,sC]) | (refine Rh.Steps.pu (v:=?_) ?_ ?_;rotate_left;(intro w_ hS_;have hk_:=hF w_ hS_;go_simp<;>with_reducible rfl);simp only [Act.put,sA,sB,sC]))
    refine Rh.Steps.forced (i:=8) (by kernel_rfl) ?_
    refine Rh.One.val (fun v u=>Is eF 98 B [(pr,a3,n3,c3)] v u) (fun v _ _ h k=>Is.stays eF 98 h k) (by rfl) (by rfl) ?_ ?_
    ·intro w_ hS_ hG_
     refine ⟨_,_,?_,below1 w_ (.cells #[.int .i64 pr,.slice a3 n3 c3] 98),Is.one (e:=eF) (x:=(pr,a3,n3,c3)) (cs:=[.int .i64 pr,.slice a3 n3 c3]) (hB.mono (Nat.le_trans hbw.size hS_.size)) rfl⟩
     go_simp
    intro v3 u4 hv3
    simp only [Act.put,sA,sB,sC]
    refine Rh.Steps.forced (i:=9) (by kernel_rfl) ?_
    refine Rh.One.new (fun v u=>Below w.heap.size w u∧OwnF B w.heap.size (hs++[(pr,a3,n3,c3)]) v u∧Mine B w.heap.size (l.take (k+1)) (hs++[(pr,a3,n3,c3)]) u) (fun v _ _ h k=>⟨nx h.1 k,h.2.1.stays k,h.2.2.stays k⟩) (by rfl) (by rfl) ?_ ?_
    ·intro w_ hS_ hG_
     have hbu:=hG_.1.1
     obtain ⟨v2,w2,hrun,hown2,hg2,hbl,hkp⟩:=Own.append elemF 23 typesF hB (Nat.le_trans hbw.size hS_.size) (HOV.out.stays hbu) hG_.2 (by have:=HM.out.len;have:=List.length_take_le k l;simp only [List.length_singleton];omega) (by omega)
     have hk2:=hkp [70] (by decide)
     refine ⟨v2,w2,?_,grown_trans hS_ hg2,hbl _ _ (Nat.le_refl _) (nx hbw hbu),hown2,?_⟩
     ·go_simp
     ·rw [HT.out]
      exact Mine.snoc ((HMV.out.stays hbu).keep hB hk2) HMV.out (Nat.le_refl _) hbw.size rfl (Own.keep (hB.mono hbw.size) hG_.1.2 hk2)
    intro v4 u5 hv4
    simp only [Act.put,sA,sB,sC]
    repeat (first | (refine Rh.Steps.sk ?_;simp only [Act.put,sA,sB,sC]) | (refine Rh.Steps.pu (v:=?_) ?_ ?_;rotate_left;(intro w_ hS_;have hk_:=hF w_ hS_;go_simp<;>with_reducible rfl);simp only [Act.put,sA,sB,sC]))
    refine Rh.Steps.nil (by kernel_rfl) ?_
    intro w4 _ hG4
    have HG:=lH hG4
    clear hG4
    go_wp2
    go_roundw
    case rel=>exact ⟨k+1,by omega,by go_num,HG.out.1,_,HG.out.2.1,HG.out.2.2⟩
    case measure=>simp [intOf];omega
   ·obtain rfl : k=n:=by omega
    have e1 : l.take k=l:=by rw [HN.out,List.take_length]
    have HZ:=HO
    have hm9:=HM.out
    rw [e1] at hm9
    have HM9:=lH hm9
    clear hm9 e1
    go_wp2
    go_ret
    exact ⟨_,rfl,hb,_,HZ.out.is (by decide) hB,HM9.out⟩
theorem nwC_size (b q : Int) : (nwC b q).size=6:=by unfold nwC;split<;>rfl
theorem nwC_one (b q : Int) : oneAll (.agg (nwC b q))=true:=by unfold nwC;split<;>exact one6 _ _ _ _ _ _ _ _ _ _ _ _
theorem rRightB_is {B : Bs} {b : Bk} {v : Value} {w : World} {r : Bool} (hr : Hid (rightB b=r)) (h : BL B b v w) (hB : B.le w.heap.size) (h1 : b.1.length≤1000000) (h2 : (flat b.1).length≤1000000) (h3 : b.2.1.length≤1000000) (h4 : (flat b.2.1).length≤1000000) :
  Calls Tryz.prog 61 #[v] w fun e w'=>e=.returned (.bool r)∧Below w.heap.size w w':=by
 rw [← hr.out];exact rRightB_any B b v w h hB h1 h2 h3 h4
theorem rNew10_is {b q : Int} {r : Bool} (h : Hid (pairOk b q=r)) (w : World) : Calls Tryz.prog 8 #[.int .i64 b,.int .i64 q] w fun e w'=>e=.returned (.tuple #[.agg (nwC b q),.int .i64 (if r=true then 0 else 1)])∧Below w.heap.size w w':=by
 have:=rNew10_any b q w
 unfold newE at this
 rwa [h.out] at this
def okOf (b q : Int) (h : Hd) : Bool:=h.2.1==b||h.2.1==q
theorem only_take {b q : Int} {l : List Hd} {k : Nat} (h : k<l.length) : only b q (l.take (k+1))=(only b q (l.take k)&&okOf b q l[k]):=by
 unfold only
 rw [Da.take_snoc h,List.all_append]
 simp [okOf]
theorem only_no {b q : Int} {l : List Hd} {k : Nat} (h : k<l.length) (hk : okOf b q l[k]=false) : only b q l=false:=by
 cases e : only b q l
 ·rfl
 ·unfold only at e
  have:=List.all_eq_true.1 e _ (List.getElem_mem h)
  unfold okOf at hk
  rw [this] at hk;cases hk
theorem rRight10_any (B : Bs) (l : Ln) (v : Value) (w : World) (h : LN B l v w) (hB : B.le w.heap.size) (h1 : l.2.2.1.1.length≤1000000) (h2 : (flat l.2.2.1.1).length≤1000000) (h3 : l.2.2.1.2.1.length≤1000000) (h4 : (flat l.2.2.1.2.1).length≤1000000) (h5 : l.2.2.2.length≤1000000) :
  Calls Tryz.prog 25 #[v] w fun e w'=>e=.returned (.bool (rightN l))∧Below w.heap.size w w':=by
 obtain ⟨lb,lq,⟨bu,se,nn⟩,od⟩:=l
 obtain ⟨a1,n1,c1,a2,n2,c2,a3,n3,c3,rfl,e1,e2,e3,hl1,hl2,hl3⟩:=h.open'
 simp only at e1 e2 e3 hl1 hl2 hl3 h1 h2 h3 h4 h5
 obtain ⟨V,hV⟩ : ∃ V,V=w.alloc (.cells (cN lb lq (.slice a1 n1 c1) (.slice a2 n2 c2) nn (.slice a3 n3 c3)) 28):=⟨_,rfl⟩
 have hbV : Below w.heap.size w V:=hV ▸ below1 w _
 have hzV : V.heap.size=w.heap.size+1:=by rw [hV];simp
 have hx0 : LB B (lb,lq,(bu,se,nn),od) (.slice a1 n1 c1) (.slice a2 n2 c2) (.slice a3 n3 c3) w.heap.size V:=by rw [hV];exact LB.made hl1 hl2 hl3 hB.1
 have HX:=lH hx0
 have HB:=lH (show ∀ u,Below w.heap.size w u→B.le u.heap.size from fun u hu=>hB.mono hu.size)
 have HSm:=lH (show od.length≤maxLen from by unfold maxLen;omega)
 have hn3 : n3≤1000000:=by omega
 have HE3:=lH e3
 obtain ⟨q0,q1,q2,q3,q4,q5⟩:=hx0.cells
 simp only at q0 q1 q2 q3 q4 q5
 have hcz:=nwC_size lb lq
 have h1c:=nwC_one lb lq
 have HV:=lH hV
 clear h hl1 hl2 hl3 hx0 hB h5 e1 e2 e3 hV
 cases hp : pairOk lb lq
 ·have HP:=lH hp
  have HZ : Hid (rightN (lb,lq,(bu,se,nn),od)=false):=lH (by unfold rightN;simp only;rw [hp];rfl)
  clear hp
  go_enter Tryz.func25,Tryz.ntmps25
  go_wp2_with fail
  rw [← HV.out]
  refine (rNew10_is HP V).mono ?_
  rintro e w1 ⟨rfl,hb1⟩
  simp only [Bool.false_eq_true,if_false]
  go_wp2
  go_ret
  exact ⟨ret_bool HZ.out.symm,nx hbV (nx hb1 (below1 _ _))⟩
 have HP:=lH hp
 clear hp
 go_enter Tryz.func25,Tryz.ntmps25
 go_wp2_with fail
 rw [← HV.out]
 refine (rNew10_is HP V).mono ?_
 rintro e w1 ⟨rfl,hb1⟩
 simp only [if_true]
 obtain ⟨M,hM⟩ : ∃ M,M=w1.alloc (.cells (nwC lb lq) 28):=⟨_,rfl⟩
 have hbM : Below V.heap.size V M:=nx hb1 (hM ▸ below1 w1 _)
 have hbwM:=nx hbV hbM
 have HXM:=lH (HX.out.stays hbM)
 have hz1:=hb1.size
 have z1 : w.heap.size<w1.heap.size:=by omega
 clear q0 q1 q2 q3 q4 q5
 obtain ⟨r0,r1,r2,r3,r4,r5⟩:=(HX.out.stays hb1).cells
 simp only at r0 r1 r2 r3 r4 r5
 have HM:=lH hM
 clear hM
 obtain ⟨rb,hrb⟩ : ∃ r,rightB (bu,se,nn)=r:=⟨_,rfl⟩
 have HRb:=lH hrb
 clear hrb
 go_wp2_with fail
 rw [← HM.out]
 refine (rRightB_is HRb HXM.out.bl (HB.out M hbwM) h1 h2 h3 h4).mono ?_
 rintro e w2 ⟨rfl,hb2⟩
 have hbw2:=nx hbwM hb2
 have HX2:=lH (HXM.out.stays hb2)
 clear r0 r1 r2 r3 r4 r5 z1
 obtain ⟨r0,r1,r2,r3,r4,r5⟩:=HX2.out.cells
 simp only at r0 r1 r2 r3 r4 r5
 have z2 : w.heap.size<w2.heap.size:=HX2.out.lt
 cases rb
 ·have HZ : Hid (rightN (lb,lq,(bu,se,nn),od)=false):=lH (by unfold rightN;simp only;rw [HRb.out,Bool.and_false,Bool.false_and,Bool.false_and])
  go_wp2
  go_ret
  exact ⟨ret_bool HZ.out.symm,hbw2⟩
 obtain ⟨ra,hra⟩ : ∃ r,Ac.right od=r:=⟨_,rfl⟩
 have HRa:=lH hra
 clear hra
 go_wp2_with fail
 refine (Ac.rRight_is HRa w2 HX2.out.l3 HSm.out).mono ?_
 rintro e w3 ⟨rfl,hb3⟩
 have hbw3:=nx hbw2 hb3
 have HX3:=lH (HX2.out.stays hb3)
 clear r0 r1 r2 r3 r4 r5 z2
 obtain ⟨r0,r1,r2,r3,r4,r5⟩:=HX3.out.cells
 simp only at r0 r1 r2 r3 r4 r5
 have z3 : w.heap.size<w3.heap.size:=HX3.out.lt
 cases ra
 ·have HZ : Hid (rightN (lb,lq,(bu,se,nn),od)=false):=lH (by unfold rightN;simp only;rw [HRa.out,Bool.and_false,Bool.false_and])
  go_wp2
  go_ret
  exact ⟨ret_bool HZ.out.symm,hbw3⟩
 have HOn : Hid (rightN (lb,lq,(bu,se,nn),od)=only lb lq od):=lH (by unfold rightN;simp only;rw [HP.out,HRb.out,HRa.out];rfl)
 go_wp2
 go_loopw [6,32] (fun _ i wr=>∃ k : Nat,k≤n3∧i=.int .i64 k∧Below w3.heap.size w3 wr∧only lb lq (od.take k)=true) (fun _ i _=>n3 - (intOf i).toNat)
 case atStart=>exact ⟨0,Nat.zero_le _,rfl,Below.refl _ _,by simp [only]⟩
 case round =>
  obtain ⟨k,hk,rfl,hb,ho⟩:=hrel
  have HO:=lH ho
  have hbw:=nx hbw3 hb
  have hxr:=HX3.out.stays hb
  clear ho r0 r1 r2 r3 r4 r5 z3
  obtain ⟨r0,r1,r2,r3,r4,r5⟩:=hxr.cells
  simp only at r0 r1 r2 r3 r4 r5
  have zr : w.heap.size<wr.heap.size:=hxr.lt
  by_cases hlt : k<n3
  ·have hlt2 : (k : Int)<n3:=by omega
   have hko : k<od.length:=by rw [HE3.out];exact hlt
   have hl:=hxr.l3
   simp only at hl
   rw [← HE3.out] at hl
   rcases hl.cases with ⟨e,_⟩ | ⟨_,g,off,cc,e,hat⟩
   ·rw [e] at hko;cases hko
   simp only [Value.slice.injEq] at e
   obtain ⟨rfl,_,rfl⟩:=e
   obtain ⟨s0,s1,s2⟩:=Ac.at3 hat k hko
   have hbb:=hat.1
   have hst:=only_take (b:=lb) (q:=lq) hko
   rw [HO.out,Bool.true_and] at hst
   obtain ⟨⟨x,y,z⟩,hx⟩ : ∃ x,od[k]'hko=x:=⟨_,rfl⟩
   rw [hx] at s0 s1 s2 hst
   simp only at s0 s1 s2
   have HSt:=lH (show only lb lq (od.take (k+1))=(y==lb||y==lq) from hst)
   have hHx:=lH hx
   clear hst hx hat hl hxr
   by_cases d1 : y=lb
   ·have f1 : (y != lb)=false:=by simpa using d1
    have HS1 : Hid (only lb lq (od.take (k+1))=true):=lH (by rw [HSt.out,Bool.or_eq_true];exact .inl (by simpa using d1))
    clear d1
    go_wp2
    go_roundw
    case rel=>exact ⟨k+1,by omega,by go_num,nx hb (below1 _ _),HS1.out⟩
    case measure=>simp [intOf];omega
   ·have f1 : (y != lb)=true:=by simpa using d1
    by_cases d2 : y=lq
    ·have f2 : (y != lq)=false:=by simpa using d2
     have HS1 : Hid (only lb lq (od.take (k+1))=true):=lH (by rw [HSt.out,Bool.or_eq_true];exact .inr (by simpa using d2))
     clear d1 d2
     go_wp2
     go_roundw
     case rel=>exact ⟨k+1,by omega,by go_num,nx hb (below1 _ _),HS1.out⟩
     case measure=>simp [intOf];omega
    ·have f2 : (y != lq)=true:=by simpa using d2
     have HZ : Hid (rightN (lb,lq,(bu,se,nn),od)=false):=lH (by
      rw [HOn.out]
      refine only_no hko ?_
      rw [hHx.out]
      show (y==lb||y==lq)=false
      simp [d1,d2])
     clear d1 d2
     go_wp2
     go_ret
     exact ⟨ret_bool HZ.out.symm,nx hbw (below1 _ _)⟩
  ·obtain rfl : k=n3:=by omega
   have HZ : Hid (rightN (lb,lq,(bu,se,nn),od)=true):=lH (by rw [HOn.out,← HO.out,← HE3.out,List.take_length])
   clear hlt
   go_wp2
   go_ret
   exact ⟨ret_bool HZ.out.symm,hbw⟩
theorem rOrdersO_any (B : Bs) (l : List Lv) (v : Value) (w : World) (h : LL B l v w) (hB : B.le w.heap.size) (hm : l.length≤1000000) (hf : (flat l).length≤1000000) :
  Calls Tryz.prog 56 #[v] w (Post (OwnO B w.heap.size (flat l)) w):=by
 rcases h.cases with ⟨rfl,a,c,rfl⟩ | ⟨hne,b,off,c,rfl,hat⟩
 ·clear h
  go_enter Tryz.func56,Tryz.ntmps56
  go_wp2
  go_loopw [3,8] (fun t i wr=>i=.int .i64 0∧t=.slice none 0 0∧Below w.heap.size w wr) (fun _ i _=>0)
  case atStart=>exact ⟨rfl,rfl,Below.refl _ _⟩
  case round =>
   obtain ⟨rfl,rfl,hb⟩:=hrel
   go_wp2
   go_ret
   exact ⟨_,rfl,hb,Own.nil _ _ _⟩
 ·have hbb : b<w.heap.size:=hat.1
  have HA:=lH hat
  have HF:=lH hf
  obtain ⟨n,hn⟩ : ∃ n,n=l.length:=⟨_,rfl⟩
  rw [← hn] at hm ⊢
  have HN:=lH hn
  clear h hat hn hne hf
  go_enter Tryz.func56,Tryz.ntmps56
  go_wp2
  go_loopw [3,8] (fun t i wr=>∃ k : Nat,k≤n∧i=.int .i64 k∧Below w.heap.size w wr∧OwnO B w.heap.size (flat (l.take k)) t wr) (fun _ i _=>n - (intOf i).toNat)
  case atStart=>exact ⟨0,Nat.zero_le _,rfl,Below.refl _ _,Own.nil _ _ _⟩
  case round =>
   obtain ⟨k,hk,rfl,hb,hown⟩:=hrel
   have HO:=lH hown
   clear hown
   by_cases hlt : k<n
   ·have hlt2 : (k : Int)<n:=by omega
    have hkl : k<l.length:=by rw [← HN.out];exact hlt
    obtain ⟨x,q0,q1,hx⟩:=atL HA.out k hkl
    obtain ⟨c1,f1,r1,p1⟩:=bcell hb
    obtain ⟨⟨pr,os⟩,hlk⟩ : ∃ y,l[k]=y:=⟨_,rfl⟩
    have ht:=flat_take_snoc hkl
    have hle:=flat_take_le l (k+1)
    rw [hlk] at q0 hx ht
    simp only at q0 hx ht
    have HT:=lH ht
    have hs : (flat (l.take k)).length+os.length≤1000000:=by rw [ht,List.length_append] at hle;have:=HF.out;omega
    clear ht hle hlk
    obtain ⟨a2,c2,rfl⟩:=hx.len
    obtain ⟨V,hV⟩ : ∃ V,V=wr.alloc (.cells #[.int .i64 pr,.slice a2 os.length c2] 98):=⟨_,rfl⟩
    have hbV : Below wr.heap.size wr V:=hV ▸ below1 wr _
    have hsz:=hb.size
    have hzV : wr.heap.size<V.heap.size:=by rw [hV];simp
    have hbw:=nx hb hbV
    have HX:=lH (Is.stays eO 70 (Is.stays eO 70 hx hb) hbV)
    obtain ⟨v2,w2,hrun,hown2,_,hbl,_⟩:=Own.append elemO 64 typesO hB (by omega) (HO.out.stays hbV) HX.out (by omega)  (by omega)
    have HO3 : Hid (OwnO B w.heap.size (flat (l.take (k+1))) v2 w2):=lH (by rw [HT.out];exact hown2)
    have hb2:=hbl _ _ (Nat.le_refl _) hbw
    rw [hV] at hrun
    clear hown2 hbl hV
    go_wp2
    go_roundw
    case rel=>exact ⟨k+1,by omega,by go_num,hb2,HO3.out⟩
    case measure=>simp [intOf];omega
   ·obtain rfl : k=n:=by omega
    have e1 : l.take k=l:=by rw [HN.out,List.take_length]
    have ho:=HO.out
    rw [e1] at ho
    have HZ:=lH ho
    clear ho e1
    go_wp2
    go_ret
    exact ⟨_,rfl,hb,HZ.out⟩
structure Sm (l : Ln) : Prop where
 m1 : l.2.2.1.1.length≤1000
 m2 : (flat l.2.2.1.1).length≤1000
 m3 : l.2.2.1.2.1.length≤1000
 m4 : (flat l.2.2.1.2.1).length≤1000
 m5 : l.2.2.2.length≤1000
theorem rRight10_is {B : Bs} {l : Ln} {v : Value} {w : World} {r : Bool} (hr : Hid (rightN l=r)) (h : LN B l v w) (hB : B.le w.heap.size) (hs : Sm l) :
  Calls Tryz.prog 25 #[v] w fun e w'=>e=.returned (.bool r)∧Below w.heap.size w w':=by
 rw [← hr.out]
 exact rRight10_any B l v w h hB (Nat.le_trans hs.m1 (by decide)) (Nat.le_trans hs.m2 (by decide)) (Nat.le_trans hs.m3 (by decide)) (Nat.le_trans hs.m4 (by decide)) (Nat.le_trans hs.m5 (by decide))
theorem rOwed10_any (B : Bs) (l : Ln) (v : Value) (a : Int) (w : World) (h : LN B l v w) (hB : B.le w.heap.size) (hs : Sm l) :
  Calls Tryz.prog 23 #[v,.int .i64 a] w fun e w'=>e=.returned (.int .i64 (owedN l a))∧Below w.heap.size w w':=by
 have hm5 : l.2.2.2.length≤maxLen:=by have:=hs.m5;unfold maxLen;omega
 have HSm:=lH (And.intro hs hm5)
 obtain ⟨r,hr⟩ : ∃ r,rightN l=r:=⟨_,rfl⟩
 obtain ⟨N,hN⟩ : ∃ N,owedN l a=N:=⟨_,rfl⟩
 have HR:=lH hr
 have HN:=lH hN
 rw [hN]
 obtain ⟨lb,lq,⟨bu,se,nn⟩,od⟩:=l
 obtain ⟨a1,n1,c1,a2,n2,c2,a3,n3,c3,rfl,e1,e2,e3,hl1,hl2,hl3⟩:=h.open'
 simp only at e1 e2 e3 hl1 hl2 hl3
 obtain ⟨V,hV⟩ : ∃ V,V=w.alloc (.cells (cN lb lq (.slice a1 n1 c1) (.slice a2 n2 c2) nn (.slice a3 n3 c3)) 28):=⟨_,rfl⟩
 have hbV : Below w.heap.size w V:=hV ▸ below1 w _
 have hx0 : LB B (lb,lq,(bu,se,nn),od) (.slice a1 n1 c1) (.slice a2 n2 c2) (.slice a3 n3 c3) w.heap.size V:=by rw [hV];exact LB.made hl1 hl2 hl3 hB.1
 have HX:=lH hx0
 have HB:=lH (hB.mono hbV.size)
 have r0:=hx0.row
 simp only at r0
 rw [hV] at r0
 have HV:=lH hV
 clear h hl1 hl2 hl3 hx0 hB e1 e2 e3 hV hs hm5 hr hN
 go_enter Tryz.func23,Tryz.ntmps23
 go_wp2_with fail
 rw [← HV.out]
 refine (rRight10_is HR HX.out.ln HB.out HSm.out.1).mono ?_
 rintro e w1 ⟨rfl,hb1⟩
 have HX1:=lH (HX.out.stays hb1)
 clear r0
 obtain ⟨r0,r1,r2,r3,r4,r5⟩:=HX1.out.cells
 simp only at r0 r1 r2 r3 r4 r5
 have z1 : w.heap.size<w1.heap.size:=HX1.out.lt
 have hbw1:=nx hbV hb1
 cases r
 ·have HZ : Hid (N=0):=lH (by rw [← HN.out];unfold owedN;rw [HR.out,if_neg (by decide)])
  go_wp2
  go_ret
  exact ⟨ret_int HZ.out.symm,hbw1⟩
 ·have HZ : Hid (N=total od a):=lH (by rw [← HN.out];unfold owedN;rw [HR.out,if_pos rfl])
  go_wp2_with fail
  refine (Ac.rTotal_any od _ a w1 HX1.out.l3 HSm.out.2).mono ?_
  rintro e w2 ⟨rfl,hb2⟩
  go_wp2
  go_ret
  exact ⟨ret_int HZ.out.symm,nx hbw1 hb2⟩
theorem rsv_take {b q a : Int} {l : List Od} {k : Nat} (h : k<l.length) : rsv b q a (l.take (k+1))=rsv b q a (l.take k)+(if ndA b q l[k].2.2.1=a then ndN l[k].2.2.1 l[k].2.2.2.1 l[k].2.2.2.2 else 0):=by
 rw [Da.take_snoc h,rsv_app,rsv,rsv,Int.add_zero]
theorem rReserved10_any (B : Bs) (l : Ln) (v : Value) (a : Int) (w : World) (h : LN B l v w) (hB : B.le w.heap.size) (hs : Sm l) :
  Calls Tryz.prog 21 #[v,.int .i64 a] w fun e w'=>e=.returned (.int .i64 (reserved l a))∧Below w.heap.size w w':=by
 have HSm:=lH hs
 obtain ⟨r,hr⟩ : ∃ r,rightN l=r:=⟨_,rfl⟩
 obtain ⟨N,hN⟩ : ∃ N,reserved l a=N:=⟨_,rfl⟩
 have HR:=lH hr
 have HN:=lH hN
 rw [hN]
 obtain ⟨lb,lq,⟨bu,se,nn⟩,od⟩:=l
 obtain ⟨a1,n1,c1,a2,n2,c2,a3,n3,c3,rfl,e1,e2,e3,hl1,hl2,hl3⟩:=h.open'
 simp only at e1 e2 e3 hl1 hl2 hl3
 obtain ⟨V,hV⟩ : ∃ V,V=w.alloc (.cells (cN lb lq (.slice a1 n1 c1) (.slice a2 n2 c2) nn (.slice a3 n3 c3)) 28):=⟨_,rfl⟩
 have hbV : Below w.heap.size w V:=hV ▸ below1 w _
 have hx0 : LB B (lb,lq,(bu,se,nn),od) (.slice a1 n1 c1) (.slice a2 n2 c2) (.slice a3 n3 c3) w.heap.size V:=by rw [hV];exact LB.made hl1 hl2 hl3 hB.1
 have HX:=lH hx0
 have HB:=lH (show ∀ u,Below w.heap.size w u→B.le u.heap.size from fun u hu=>hB.mono hu.size)
 have r0:=hx0.row
 simp only at r0
 rw [hV] at r0
 have HV:=lH hV
 clear h hl1 hl2 hl3 hx0 hB e1 e2 e3 hV hs hr hN
 go_enter Tryz.func21,Tryz.ntmps21
 go_wp2_with fail
 rw [← HV.out]
 refine (rRight10_is HR HX.out.ln (HB.out V hbV) HSm.out).mono ?_
 rintro e w1 ⟨rfl,hb1⟩
 have HX1:=lH (HX.out.stays hb1)
 clear r0
 have hbw1:=nx hbV hb1
 cases r
 ·have HZ : Hid (N=0):=lH (by rw [← HN.out];unfold reserved;rw [HR.out,if_neg (by decide)])
  go_wp2
  go_ret
  exact ⟨ret_int HZ.out.symm,hbw1⟩
 ·obtain ⟨all,hall⟩ : ∃ all,allO (bu,se,nn)=all:=⟨_,rfl⟩
  have HAll:=lH (show flat bu++flat se=all from hall)
  have HZ : Hid (N=rsv lb lq a all):=lH (by rw [← HN.out];unfold reserved;rw [HR.out,if_pos rfl];simp only;rw [hall])
  have hRt:=rightN_iff.1 HR.out
  have hok:=okO_of hRt.book
  simp only at hok
  rw [hall] at hok
  have hcnt : all.length≤40:=by
   have:=hRt.book.cnt
   unfold cntB at this
   rw [← HAll.out,List.length_append]
   exact this
  have HOk:=lH hok
  have hF : ∀ u,Below w1.heap.size w1 u→u.cell? ⟨w.heap.size,2,none⟩=some (.slice a1 n1 c1)∧u.cell? ⟨w.heap.size,3,none⟩=some (.slice a2 n2 c2)∧w.heap.size<u.heap.size:=fun u hu=>by
   obtain ⟨_,_,r2,r3,_,_⟩:=(HX1.out.stays hu).cells
   exact ⟨r2,r3,(HX1.out.stays hu).lt⟩
  have HLs:=lH (show ∀ u,Below w1.heap.size w1 u→LL B bu (.slice a1 n1 c1) u∧LL B se (.slice a2 n2 c2) u from fun u hu=>⟨(HX1.out.stays hu).l1,(HX1.out.stays hu).l2⟩)
  clear hall hRt hok
  go_wp2
  refine Rh.rb [0,1,2,4,5,6,10,3,7,8,9] ?_
  repeat (first | (refine Rh.Steps.sk ?_;simp only [Act.put,sA,sB,sC]) | (refine Rh.Steps.pu (v:=?_) ?_ ?_;rotate_left;(intro w_ hS_;have hk_:=hF w_ hS_;go_simp<;>with_reducible rfl);simp only [Act.put,sA,sB,sC]))
  refine Rh.Steps.forced (i:=3) (by kernel_rfl) ?_
  refine Rh.One.call (fun v u=>OwnO B w1.heap.size (flat bu) v u) (fun v _ _ h k=>h.stays k) (f:=?_) (args:=?_) (by rfl) (by rfl) ?_ ?_ ?_
  rotate_left 2
  ·intro w_ hS_ hG_;go_simp<;>first | with_reducible rfl | (constructor<;>with_reducible rfl)
  ·intro w_ hS_ hG_;(go_at_call 56;refine (rOrdersO_any B bu _ w_ (HLs.out w_ hS_).1 (HB.out w_ (nx hbw1 hS_)) (Nat.le_trans HSm.out.m1 (by decide)) (Nat.le_trans HSm.out.m2 (by decide))).mono ?_;rintro e w' ⟨v,rfl,hb9,ho⟩;exact ⟨v,rfl,hb9,Own.lower ho hS_.size⟩)
  intro v1 u_ hv1
  simp only [Act.put,sA,sB,sC]
  refine Rh.Steps.forced (i:=7) (by kernel_rfl) ?_
  refine Rh.One.call (fun v u=>OwnO B w1.heap.size (flat se) v u) (fun v _ _ h k=>h.stays k) (f:=?_) (args:=?_) (by rfl) (by rfl) ?_ ?_ ?_
  rotate_left 2
  ·intro w_ hS_ hG_;go_simp<;>first | with_reducible rfl | (constructor<;>with_reducible rfl)
  ·intro w_ hS_ hG_;(go_at_call 56;refine (rOrdersO_any B se _ w_ (HLs.out w_ hS_).2 (HB.out w_ (nx hbw1 hS_)) (Nat.le_trans HSm.out.m3 (by decide)) (Nat.le_trans HSm.out.m4 (by decide))).mono ?_;rintro e w' ⟨v,rfl,hb9,ho⟩;exact ⟨v,rfl,hb9,Own.lower ho hS_.size⟩)
  intro v2 u_ hv2
  simp only [Act.put,sA,sB,sC]
  refine Rh.Steps.forced (i:=8) (by kernel_rfl) ?_
  refine Rh.One.new (fun v u=>Below w1.heap.size w1 u∧OwnO B w1.heap.size all v u) (fun v _ _ h k=>⟨nx h.1 k,h.2.stays k⟩) (by rfl) (by rfl) ?_ ?_
  ·intro w_ hS_ hG_
   obtain ⟨v8,w8,hrun,hown8,_,hbl8,_⟩:=Own.append elemO 64 typesO (HB.out w1 hbw1) hS_.size hG_.1.2 (hG_.2.is (by decide) (HB.out w1 hbw1)) (by have:=HSm.out.m2;have:=HSm.out.m4;simp only at *;omega) (by omega)
   have hb8:=hbl8 _ _ (Nat.le_refl _) hS_
   refine ⟨v8,w8,?_,hb8,hb8,by rw [← HAll.out];exact hown8⟩
   go_simp
  intro v3 u3 hv3
  simp only [Act.put,sA,sB,sC]
  obtain ⟨a9,m,c9,rfl,hm⟩ : ∃ a m c,v3=.slice a m c∧all.length=m:=by
   obtain ⟨a,c,e⟩:=(hv3.2.is (by decide) (HB.out w1 hbw1)).len
   exact ⟨a,_,c,e,rfl⟩
  have HMm:=lH hm
  rw [hm] at hcnt
  clear hm hv3
  repeat (first | (refine Rh.Steps.sk ?_;simp only [Act.put,sA,sB,sC]) | (refine Rh.Steps.pu (v:=?_) ?_ ?_;rotate_left;(intro w_ hS_;have hk_:=hF w_ hS_;go_simp<;>with_reducible rfl);simp only [Act.put,sA,sB,sC]))
  refine Rh.Steps.nil (by kernel_rfl) ?_
  rintro w2 hb2 hg2
  have hbw2:=nx hbw1 hb2
  have HOl:=lH (hg2.2.is (by decide) (HB.out w1 hbw1))
  have HX2:=lH (HX1.out.stays hb2)
  clear hg2 hF
  go_wp2
  go_loopw [5,7,8,9,23] (fun n _ _ _ i wr=>∃ k : Nat,k≤m∧i=.int .i64 k∧n=.int .i64 (rsv lb lq a (all.take k))∧Below w2.heap.size w2 wr) (fun _ _ _ _ i _=>m - (intOf i).toNat)
  case atStart=>exact ⟨0,Nat.zero_le _,rfl,rfl,Below.refl _ _⟩
  case round =>
   obtain ⟨k,hk,rfl,rfl,hb⟩:=hrel
   have hbw:=nx hbw2 hb
   obtain ⟨nk,hnk⟩ : ∃ nk,rsv lb lq a (all.take k)=nk:=⟨_,rfl⟩
   have hbd:=rsv_bd (b:=lb) (q:=lq) (a:=a) (l:=all.take k) fun o ho=>HOk.out o (List.mem_of_mem_take ho)
   have hlen:=List.length_take_le k all
   have hnkb : 0≤nk∧nk≤43980465111040:=by omega
   rw [hnk]
   have HNk:=lH hnk
   clear hnk hbd hlen
   have HXr:=lH (HX2.out.stays hb)
   by_cases hlt : k<m
   ·have hlt2 : (k : Int)<m:=by omega
    have hko : k<all.length:=by rw [HMm.out];exact hlt
    have hol:=Is.stays eO 70 HOl.out hb
    rw [← HMm.out] at hol
    rcases hol.cases with ⟨e,_⟩ | ⟨_,g,off,cc,e,hat⟩
    ·rw [e] at hko;cases hko
    simp only [Value.slice.injEq] at e
    obtain ⟨rfl,_,rfl⟩:=e
    obtain ⟨s0,s1,s2,s3,s4⟩:=at5 hat k hko
    have hbb:=hat.1
    have hst:=rsv_take (b:=lb) (q:=lq) (a:=a) hko
    rw [HNk.out] at hst
    have hoo:=HOk.out _ (List.getElem_mem hko)
    obtain ⟨⟨x1,x2,x3,x4,x5⟩,hx⟩ : ∃ x,all[k]'hko=x:=⟨_,rfl⟩
    rw [hx] at s0 s1 s2 s3 s4 hst hoo
    unfold okO at hoo
    simp only at s0 s1 s2 s3 s4 hst hoo
    have HSt:=lH hst
    have rr:=HXr.out.row
    simp only at rr
    have zr : w.heap.size<wr.heap.size:=HXr.out.lt
    have hnd:=ndN_bd (s:=x3) hoo.1 hoo.2.1 hoo.2.2.1 hoo.2.2.2
    obtain ⟨mm,hmm⟩ : ∃ mm,ndN x3 x4 x5=mm:=⟨_,rfl⟩
    rw [hmm] at hnd
    obtain ⟨ma,hma⟩ : ∃ ma,ndA lb lq x3=ma:=⟨_,rfl⟩
    have HMM:=lH (show ndN x3 x4 x5=mm∧ndA lb lq x3=ma from ⟨hmm,hma⟩)
    obtain ⟨M,hM⟩ : ∃ M,M=wr.alloc (.cells #[.int .i64 x1,.int .i64 x2,.int .i64 x3,.int .i64 x4,.int .i64 x5] 70):=⟨_,rfl⟩
    have hbM : Below wr.heap.size wr M:=hM ▸ below1 wr _
    have HM:=lH hM
    clear hst hx hat hol hmm hma hM
    go_wp2_with fail
    rw [← HM.out]
    refine (rNeeds_any lb lq x3 x4 x5 _ _ _ nn M ⟨hoo.1,hoo.2.1⟩ ⟨hoo.2.2.1,hoo.2.2.2⟩).mono ?_
    rintro e w3 ⟨rfl,hb3⟩
    rw [HMM.out.1,HMM.out.2]
    rw [HMM.out.1,HMM.out.2] at HSt
    have hb9:=nx hb (nx hbM hb3)
    by_cases he : ma=a
    ·have hd : (ma==a)=true:=by simpa using he
     have HS1 : Hid (rsv lb lq a (all.take (k+1))=nk+mm):=lH (by rw [HSt.out,if_pos he])
     clear he
     go_wp2
     go_roundw
     case rel=>exact ⟨k+1,by omega,by go_num,by rw [HS1.out],hb9⟩
     case measure=>simp [intOf];omega
    ·have hd : (ma==a)=false:=by simpa using he
     have HS1 : Hid (rsv lb lq a (all.take (k+1))=nk):=lH (by rw [HSt.out,if_neg he,Int.add_zero])
     clear he
     go_wp2
     go_roundw
     case rel=>exact ⟨k+1,by omega,by go_num,by rw [HS1.out],hb9⟩
     case measure=>simp [intOf];omega
   ·obtain rfl : k=m:=by omega
    have HS1 : Hid (N=nk):=lH (by rw [HZ.out,← HNk.out,← HMm.out,List.take_length])
    clear hlt
    go_wp2
    go_ret
    exact ⟨ret_int HS1.out.symm,hbw⟩
end Go.Proofs.YthecinmekoaphaaGreat.La
