/- Lanes in memory. -/
import Derived.Test.YtjhocpcpkemcaaaGreatQeZZ
import Derived.Test.YtjhocpcpkemcaaaGreatQeAE
import Derived.Test.YtjhocpcpkemcaaaGreatQeAT
import Derived.Test.YtjhocpcpkemcaaaGreatQeAO
import Derived.Test.YtjhocpcpkemcaaaGreatQeAU
import Derived.RegionTactic
set_option linter.unusedVariables false
set_option maxRecDepth 16000
set_option maxHeartbeats 32000000
namespace Go.Proofs.YtjhocpcpkemcaaaGreat.La
open Go.RowKit
open Rw
open Da
open Le
open Bk
open Ac (Hd Pu HL pmay pmay_iff tot total giveE giveL takeE takeL)
section
variable (ρ:Operand→Value) (dst:Option Tmp) (ty:TypeId) (pos:String) (after:Array Edge) (guard:Option (Nat × Bool)) (w:World)
theorem loadN (x:Operand) (h:(rowOf w (ρ x)).size=6):(execOp ρ { dst,op:=.load 59 x,type:=ty,pos,after,guard }).run Tryz.prog w=.ok (.value (.agg (rowOf w (ρ x)))) w :=
 exec_load (n:=5) ρ dst ty pos after guard w Tryz.underlying59 rfl (by kernel_rfl) x h
theorem storeN (p x:Operand) (h:plainAt 6 w (ρ p)=true) (hs:(ρ x).cells.size=6) (h1:oneAll (ρ x)=true) (ha:ρ x=.agg (ρ x).cells):(execOp ρ { dst,op:=.store 59 p x,type:=ty,pos,after,guard }).run Tryz.prog w=.ok .skip (putRow w (ρ p) (ρ x).cells) :=
 exec_store (n:=5) ρ dst ty pos after guard w (by kernel_rfl) p x h hs h1 ha
end
abbrev cN (b q:Int) (x y:Value) (n:Int) (o:Value):Array Value:=#[.int .i64 b,.int .i64 q,x,y,.int .i64 n,o]
theorem one6 (a c d:Option Addr) (n m k n' m' k':Nat) (x y z:Int):oneAll (.agg #[.int .i64 x,.int .i64 y,.slice a n n',.slice c m m',.int .i64 z,.slice d k k'])=true:=by simp [oneAll,Value.cells,Value.oneCell']
theorem size6 (a b c d e f:Value):(#[a,b,c,d,e,f]:Array Value).size=6:=rfl
attribute [go_sem ↓] loadN storeN
attribute [go_sem] one6 size6
theorem ret_N2 {fn:Func} {p q:Tmp} (h:fn.results=#[.cell p 59,.tmp q]) (tmps:Array Value) (w:World) {cs:Array Value} (hs:cs.size=6) (hr:rowOf w (tmps.getD p undef)=cs):(results fn tmps).run Tryz.prog w=.ok (.tuple #[.agg cs,tmps.getD q undef]) w :=
 ret2 (n:=5) h Tryz.underlying59 rfl (by kernel_rfl) tmps w hs hr
theorem ret_N4 {fn:Func} {p q r s:Tmp} (h:fn.results=#[.cell p 59,.tmp q,.tmp r,.tmp s]) (tmps:Array Value) (w:World) {cs:Array Value} (hs:cs.size=6) (hr:rowOf w (tmps.getD p undef)=cs):(results fn tmps).run Tryz.prog w=.ok (.tuple #[.agg cs,tmps.getD q undef,tmps.getD r undef,tmps.getD s undef]) w:=by
 obtain ⟨b,e,hl⟩:=read_cell (P:=Tryz.prog) (T:=59) (n:=5) Tryz.underlying59 rfl (by kernel_rfl) hr hs
 have hp':tmps[p]?.getD undef=.pointer (some ⟨b,0,none⟩):=by simpa using e
 simp [results,h,hp',asAddr,hl]
theorem ret_N5 {fn:Func} {p q r s t:Tmp} (h:fn.results=#[.cell p 59,.tmp q,.tmp r,.tmp s,.tmp t]) (tmps:Array Value) (w:World) {cs:Array Value} (hs:cs.size=6) (hr:rowOf w (tmps.getD p undef)=cs):(results fn tmps).run Tryz.prog w=.ok (.tuple #[.agg cs,tmps.getD q undef,tmps.getD r undef,tmps.getD s undef,tmps.getD t undef]) w:=by
 obtain ⟨b,e,hl⟩:=read_cell (P:=Tryz.prog) (T:=59) (n:=5) Tryz.underlying59 rfl (by kernel_rfl) hr hs
 have hp':tmps[p]?.getD undef=.pointer (some ⟨b,0,none⟩):=by simpa using e
 simp [results,h,hp',asAddr,hl]
theorem hl_keep {lo:Nat} {l:List Hd} {v:Value} {w w':World} (h:HL lo l v w) (hk:Da.Keeps (Bs.of lo) [52] w w'):HL lo l v w':=by
 obtain ⟨a,c,hv,h⟩:=h
 refine ⟨a,c,hv,?_⟩
 rcases h with h | ⟨b,off,ha,ht,h1,h2⟩
 ·exact .inl h
 ·have hb:w'.heap[b]?=w.heap[b]?:=by
   rw [Array.getElem?_eq_getElem h1]
   refine hk.block b _ (Array.getElem?_eq_getElem h1) (ht.imp id fun ⟨cur,e⟩=>⟨cur,_,(0,0),?_,List.mem_singleton.2 rfl,fun h=>h⟩)
   rw [Array.getElem?_eq_getElem h1] at e
   exact Option.some.inj e
  exact .inr ⟨b,off,ha,ht.imp id (fun ⟨cur,e⟩=>⟨cur,hb.trans e⟩),Nat.lt_of_lt_of_le h1 hk.size,fun i x hx j u hu=>by
   rw [World.cell?_of_block (w:=w) hb];exact h2 i x hx j u hu⟩
theorem hl_stays {lo:Nat} {l:List Hd} {v:Value} {w w':World} (h:HL lo l v w) (hb:Below w.heap.size w w'):HL lo l v w':=Sl.SL.stays Ac.enc 3 52 l v w w' h hb
theorem hl_slice {lo:Nat} {l:List Hd} {v:Value} {w:World} (h:HL lo l v w):∃ a c,v=.slice a l.length c:=by
 obtain ⟨a,c,hv,_⟩:=h;exact ⟨a,c,hv⟩
def LN (B:Bs) (l:Ln) (v:Value) (w:World):Prop:=∃ x y o,v=.agg (cN l.1 l.2.1 x y l.2.2.1.2.2 o)∧LL B l.2.2.1.1 x w∧LL B l.2.2.1.2.1 y w∧HL B.lo l.2.2.2 o w
theorem LN.stays {B:Bs} {l:Ln} {v:Value} {w w':World} (h:LN B l v w) (hb:Below w.heap.size w w'):LN B l v w':=by
 obtain ⟨x,y,o,e,h1,h2,h3⟩:=h
 exact ⟨x,y,o,e,Is.stays eL 106 h1 hb,Is.stays eL 106 h2 hb,hl_stays h3 hb⟩
theorem LN.open' {B:Bs} {l:Ln} {v:Value} {w:World} (h:LN B l v w):∃ a1 n1 c1 a2 n2 c2 a3 n3 c3,v=.agg (cN l.1 l.2.1 (.slice a1 n1 c1) (.slice a2 n2 c2) l.2.2.1.2.2 (.slice a3 n3 c3))∧l.2.2.1.1.length=n1∧l.2.2.1.2.1.length=n2∧l.2.2.2.length=n3 ∧
  LL B l.2.2.1.1 (.slice a1 n1 c1) w∧LL B l.2.2.1.2.1 (.slice a2 n2 c2) w∧HL B.lo l.2.2.2 (.slice a3 n3 c3) w:=by
 obtain ⟨x,y,o,rfl,h1,h2,h3⟩:=h
 obtain ⟨a1,c1,rfl⟩:=h1.len
 obtain ⟨a2,c2,rfl⟩:=h2.len
 obtain ⟨a3,c3,rfl⟩:=hl_slice h3
 exact ⟨a1,_,c1,a2,_,c2,a3,_,c3,rfl,rfl,rfl,rfl,h1,h2,h3⟩
structure LB (B:Bs) (l:Ln) (x y o:Value) (s:Nat) (w:World):Prop where
 bk:w.heap[s]?=some (.cells (cN l.1 l.2.1 x y l.2.2.1.2.2 o) 59 (0,0))
 lo:B.lo≤s
 l1:LL B l.2.2.1.1 x w
 l2:LL B l.2.2.1.2.1 y w
 l3:HL B.lo l.2.2.2 o w
theorem LB.lt {B:Bs} {l:Ln} {x y o:Value} {s:Nat} {w:World} (h:LB B l x y o s w):s<w.heap.size:=(Array.getElem?_eq_some_iff.1 h.bk).1
theorem LB.stays {B:Bs} {l:Ln} {x y o:Value} {s:Nat} {w w':World} (h:LB B l x y o s w) (hb:Below w.heap.size w w'):LB B l x y o s w' :=
 ⟨(hb.block s h.lt).trans h.bk,h.lo,Is.stays eL 106 h.l1 hb,Is.stays eL 106 h.l2 hb,hl_stays h.l3 hb⟩
theorem LB.row {B:Bs} {l:Ln} {x y o:Value} {s:Nat} {w:World} (h:LB B l x y o s w):row w s=cN l.1 l.2.1 x y l.2.2.1.2.2 o:=by unfold Rw.row;rw [h.bk]
theorem LB.ln {B:Bs} {l:Ln} {x y o:Value} {s:Nat} {w:World} (h:LB B l x y o s w):LN B l (.agg (cN l.1 l.2.1 x y l.2.2.1.2.2 o)) w:=⟨x,y,o,rfl,h.l1,h.l2,h.l3⟩
theorem LB.bl {B:Bs} {l:Ln} {x y o:Value} {s:Nat} {w:World} (h:LB B l x y o s w):BL B l.2.2.1 (.agg #[x,y,.int .i64 l.2.2.1.2.2]) w:=⟨x,y,rfl,h.l1,h.l2⟩
theorem LB.cells {B:Bs} {l:Ln} {x y o:Value} {s:Nat} {w:World} (h:LB B l x y o s w):w.cell? ⟨s,0,none⟩=some (.int .i64 l.1)∧w.cell? ⟨s,1,none⟩=some (.int .i64 l.2.1)∧w.cell? ⟨s,2,none⟩=some x∧w.cell? ⟨s,3,none⟩=some y∧w.cell? ⟨s,4,none⟩=some (.int .i64 l.2.2.1.2.2)∧w.cell? ⟨s,5,none⟩=some o:=by
 refine ⟨?_,?_,?_,?_,?_,?_⟩<;>simp [World.cell?,h.bk,cN]
theorem LB.made {B:Bs} {l:Ln} {x y o:Value} {w:World} (h1:LL B l.2.2.1.1 x w) (h2:LL B l.2.2.1.2.1 y w) (h3:HL B.lo l.2.2.2 o w) (hB:B.lo≤w.heap.size):LB B l x y o w.heap.size (w.alloc (.cells (cN l.1 l.2.1 x y l.2.2.1.2.2 o) 59)) :=
 ⟨heap_alloc_new w _,hB,Is.stays eL 106 h1 (below1 _ _),Is.stays eL 106 h2 (below1 _ _),hl_stays h3 (below1 _ _)⟩
theorem setN {w:World} {s:Nat} {cs:Array Value} {t:TypeId} {fr:Nat × Nat} (k:Nat) (v:Value) (h:w.heap[s]?=some (.cells cs t fr)):(w.setCell ⟨s,k,none⟩ v).heap[s]?=some (.cells (cs.setIfInBounds k v) t fr):=by
 simp only [World.setCell,Array.getElem?_modify,if_true,h]
 rfl
theorem LB.other {B:Bs} {l:Ln} {x y o:Value} {s k:Nat} {w:World} {c0:Array Value} (h:LB B l x y o s w) (hne:k≠s) (lo:B.lo≤k) (hk:w.heap[k]?=some (.cells c0 59 (0,0))) (c:Array Value):LB B l x y o s (w.setRow k c) :=
 ⟨(setRow_other w k s c (fun e=>hne e.symm)).trans h.bk,h.lo,Is.keep eL 106 h.l1 (keeps_setRow _ hk (by decide) lo),Is.keep eL 106 h.l2 (keeps_setRow _ hk (by decide) lo),hl_keep h.l3 (keeps_setRow _ hk (by decide) lo)⟩
def eH:Enc Hd:=Enc.flat 3 Ac.enc (fun _=>rfl) (fun o u hu=>by simp [Ac.enc] at hu;rcases hu with rfl | rfl | rfl<;>rfl)
theorem elemH:Elem Tryz.prog 24 52 eH.k 24:=elem_of Tryz.underlying24 Ac.infoH rfl (by decide)
theorem typesH:52 ∉ eH.ts:=by decide
theorem hl_is {lo:Nat} {l:List Hd} {v:Value} {w:World} (h:HL lo l v w):Is eH 52 (Bs.of lo) l v w:=by
 obtain ⟨a,c,hv,h⟩:=h
 refine ⟨a,c,hv,?_⟩
 rcases h with h | ⟨b,off,ha,ht,h1,h2⟩
 ·exact .inl h
 ·exact .inr ⟨b,off,ha,h1,ht.imp id (fun h=>⟨h,fun h=>h⟩),fun i x hx=>⟨Ac.enc x,rfl,fun j u hu=>h2 i x hx j u hu⟩⟩
theorem is_hl {lo:Nat} {l:List Hd} {v:Value} {w:World} (h:Is eH 52 (Bs.of lo) l v w):HL lo l v w:=by
 obtain ⟨a,c,hv,h⟩:=h
 refine ⟨a,c,hv,?_⟩
 rcases h with h | ⟨b,off,ha,h1,ht,h2⟩
 ·exact .inl h
 ·have ht2:b<lo∨∃ cur,w.heap[b]?=some (.cells cur 52 (0,0)):=by
   rcases ht with ht | ⟨ht,_⟩
   ·exact .inl ht
   ·exact .inr ht
  exact .inr ⟨b,off,ha,ht2,h1,fun i x hx j u hu=>by
   obtain ⟨cs,rfl,hc⟩:=h2 i x hx
   exact hc j u hu⟩
theorem own_h {lo:Nat} {l:List Hd} {v:Value} {w:World} (h:HL lo l v w) (hlo:lo≤w.heap.size) (hm:l.length≤1000000) :
  ∃ a c w',appRun Tryz.prog 24 24 (.slice (some ⟨w.heap.size,0,none⟩) 0 0) v (w.alloc (.cells #[] 52))=.ok (.slice a l.length c) w'∧HL lo l (.slice a l.length c) w'∧Below w.heap.size w w':=by
 have hb:=below1 w (.cells #[] 52)
 obtain ⟨v',w',hrun,hown,_,hbl,_⟩:=Own.append elemH 24 typesH (B:=Bs.of lo) (Bo:=w.heap.size) (l:=[]) ⟨hlo,fun _ h=>h.elim⟩ hb.size (Own.made _ w _ (Nat.le_refl _)) (Is.stays eH 52 (hl_is h) hb) (by simp;omega) (by decide)
 have hi:=hown.is (by decide) (show (Bs.of lo).le w.heap.size from ⟨hlo,fun _ h=>h.elim⟩)
 rw [List.nil_append] at hi
 obtain ⟨a,c,rfl⟩:=hi.len
 exact ⟨a,c,w',hrun,is_hl hi,hbl _ _ (Nat.le_refl _) hb⟩
theorem newN_ok {b q:Int} (h:pairOk b q=true):newN b q=(b,q,([],[],1),[])∧newE b q=0:=⟨if_pos h,if_pos h⟩
theorem newN_no {b q:Int} (h:pairOk b q=false):newN b q=(0,0,([],[],0),[])∧newE b q=1:=⟨if_neg (by rw [h];decide),if_neg (by rw [h];decide)⟩
abbrev nilN (b q n:Int):Array Value:=cN b q (.slice none 0 0) (.slice none 0 0) n (.slice none 0 0)
def nwC (b q:Int):Array Value:=if pairOk b q=true then nilN b q 1 else nilN 0 0 0
theorem rNew10_ok (b q:Int) (w:World) (h:pairOk b q=true):Calls Tryz.prog 40 #[.int .i64 b,.int .i64 q] w fun e w'=>e=.returned (.tuple #[.agg (nilN b q 1),.int .i64 0])∧Below w.heap.size w w':=by
 obtain ⟨h1,h2,h3,h4,h5⟩:=pairOk_iff.1 h
 have d1:decide (b<0)=false:=decide_eq_false (by omega)
 have d2:decide (8≤b)=false:=decide_eq_false (by omega)
 have d3:decide (q<0)=false:=decide_eq_false (by omega)
 have d4:decide (8≤q)=false:=decide_eq_false (by omega)
 have d5:(b==q)=false:=by simpa using h5
 clear h
 go_enter Tryz.func40,Tryz.ntmps40
 go_wp2_with fail
 refine (rNew_any _).mono ?_
 rintro e w1 ⟨rfl,hb1⟩
 have hz:=hb1.size
 simp only [World.size_alloc] at hz
 have p1:plain 6 w1 w.heap.size=true:=by
  rw [(bcell hb1).2.2.2 _ _ (by simp)];simp [go_sem]
 have z1:w.heap.size<w1.heap.size:=by omega
 have HB:=lH (nx (below1 w _) hb1)
 clear hb1
 go_wp2
 refine bodyPost_ret (v:=.tuple #[.agg (nilN b q 1),.int .i64 0]) (ret_N2 Tryz.results40 _ _ rfl ?c1) rfl ⟨rfl,below_setRow HB.out (Nat.le_refl _) _⟩
 case c1=>exact row_set _ p1
theorem rNew10_no (b q:Int) (w:World) (h:pairOk b q=false):Calls Tryz.prog 40 #[.int .i64 b,.int .i64 q] w fun e w'=>e=.returned (.tuple #[.agg (nilN 0 0 0),.int .i64 1])∧Below w.heap.size w w':=by
 have hn:¬ (0≤b∧b<8∧0≤q∧q<8∧b≠q):=fun k=>by rw [pairOk_iff.2 k] at h;cases h
 clear h
 by_cases h1:b<0
 ·have d1:decide (b<0)=true:=decide_eq_true h1
  clear hn
  go_enter Tryz.func40,Tryz.ntmps40
  go_wp2
  exact bodyPost_ret (v:=.tuple #[.agg (nilN 0 0 0),.int .i64 1]) (ret_N2 Tryz.results40 _ _ rfl (by simp [go_sem])) rfl ⟨rfl,below1 _ _⟩
 ·have d1:decide (b<0)=false:=decide_eq_false h1
  by_cases h2:8≤b
  ·have d2:decide (8≤b)=true:=decide_eq_true h2
   clear hn h1
   go_enter Tryz.func40,Tryz.ntmps40
   go_wp2
   exact bodyPost_ret (v:=.tuple #[.agg (nilN 0 0 0),.int .i64 1]) (ret_N2 Tryz.results40 _ _ rfl (by simp [go_sem])) rfl ⟨rfl,below1 _ _⟩
  ·have d2:decide (8≤b)=false:=decide_eq_false h2
   by_cases h3:q<0
   ·have d3:decide (q<0)=true:=decide_eq_true h3
    clear hn h1 h2
    go_enter Tryz.func40,Tryz.ntmps40
    go_wp2
    exact bodyPost_ret (v:=.tuple #[.agg (nilN 0 0 0),.int .i64 1]) (ret_N2 Tryz.results40 _ _ rfl (by simp [go_sem])) rfl ⟨rfl,below1 _ _⟩
   ·have d3:decide (q<0)=false:=decide_eq_false h3
    by_cases h4:8≤q
    ·have d4:decide (8≤q)=true:=decide_eq_true h4
     clear hn h1 h2 h3
     go_enter Tryz.func40,Tryz.ntmps40
     go_wp2
     exact bodyPost_ret (v:=.tuple #[.agg (nilN 0 0 0),.int .i64 1]) (ret_N2 Tryz.results40 _ _ rfl (by simp [go_sem])) rfl ⟨rfl,below1 _ _⟩
    ·have d4:decide (8≤q)=false:=decide_eq_false h4
     have d5:(b==q)=true:=by
      have:b=q:=by omega
      simpa using this
     clear hn h1 h2 h3 h4
     go_enter Tryz.func40,Tryz.ntmps40
     go_wp2
     exact bodyPost_ret (v:=.tuple #[.agg (nilN 0 0 0),.int .i64 1]) (ret_N2 Tryz.results40 _ _ rfl (by simp [go_sem])) rfl ⟨rfl,below1 _ _⟩
theorem rNew10_any (b q:Int) (w:World):Calls Tryz.prog 40 #[.int .i64 b,.int .i64 q] w fun e w'=>e=.returned (.tuple #[.agg (nwC b q),.int .i64 (newE b q)])∧Below w.heap.size w w':=by
 unfold nwC newE
 cases h:pairOk b q
 ·rw [if_neg (by decide),if_neg (by decide)];exact rNew10_no b q w h
 ·rw [if_pos rfl,if_pos rfl];exact rNew10_ok b q w h
theorem nwC_size (b q:Int):(nwC b q).size=6:=by unfold nwC;split<;>rfl
theorem nwC_one (b q:Int):oneAll (.agg (nwC b q))=true:=by unfold nwC;split<;>exact one6 _ _ _ _ _ _ _ _ _ _ _ _
theorem rRightB_is {B:Bs} {b:Bk} {v:Value} {w:World} {r:Bool} (hr:Hid (rightB b=r)) (h:BL B b v w) (hB:B.le w.heap.size) (h1:b.1.length≤1000000) (h2:(flat b.1).length≤1000000) (h3:b.2.1.length≤1000000) (h4:(flat b.2.1).length≤1000000) :
  Calls Tryz.prog 109 #[v] w fun e w'=>e=.returned (.bool r)∧Below w.heap.size w w':=by
 rw [← hr.out];exact rRightB_any B b v w h hB h1 h2 h3 h4
theorem rNew10_is {b q:Int} {r:Bool} (h:Hid (pairOk b q=r)) (w:World):Calls Tryz.prog 40 #[.int .i64 b,.int .i64 q] w fun e w'=>e=.returned (.tuple #[.agg (nwC b q),.int .i64 (if r=true then 0 else 1)])∧Below w.heap.size w w':=by
 have:=rNew10_any b q w
 unfold newE at this
 rwa [h.out] at this
def okOf (b q:Int) (h:Hd):Bool:=h.2.1==b||h.2.1==q
theorem only_take {b q:Int} {l:List Hd} {k:Nat} (h:k<l.length):only b q (l.take (k+1))=(only b q (l.take k)&&okOf b q l[k]):=by
 unfold only
 rw [Da.take_snoc h,List.all_append]
 simp [okOf]
theorem only_no {b q:Int} {l:List Hd} {k:Nat} (h:k<l.length) (hk:okOf b q l[k]=false):only b q l=false:=by
 cases e:only b q l
 ·rfl
 ·unfold only at e
  have:=List.all_eq_true.1 e _ (List.getElem_mem h)
  unfold okOf at hk
  rw [this] at hk;cases hk
theorem rRight10_any (B:Bs) (l:Ln) (v:Value) (w:World) (h:LN B l v w) (hB:B.le w.heap.size) (h1:l.2.2.1.1.length≤1000000) (h2:(flat l.2.2.1.1).length≤1000000) (h3:l.2.2.1.2.1.length≤1000000) (h4:(flat l.2.2.1.2.1).length≤1000000) (h5:l.2.2.2.length≤1000000) :
  Calls Tryz.prog 63 #[v] w fun e w'=>e=.returned (.bool (rightN l))∧Below w.heap.size w w':=by
 obtain ⟨lb,lq,⟨bu,se,nn⟩,od⟩:=l
 obtain ⟨a1,n1,c1,a2,n2,c2,a3,n3,c3,rfl,e1,e2,e3,hl1,hl2,hl3⟩:=h.open'
 simp only at e1 e2 e3 hl1 hl2 hl3 h1 h2 h3 h4 h5
 obtain ⟨V,hV⟩:∃ V,V=w.alloc (.cells (cN lb lq (.slice a1 n1 c1) (.slice a2 n2 c2) nn (.slice a3 n3 c3)) 59):=⟨_,rfl⟩
 have hbV:Below w.heap.size w V:=hV ▸ below1 w _
 have hzV:V.heap.size=w.heap.size+1:=by rw [hV];simp
 have hx0:LB B (lb,lq,(bu,se,nn),od) (.slice a1 n1 c1) (.slice a2 n2 c2) (.slice a3 n3 c3) w.heap.size V:=by rw [hV];exact LB.made hl1 hl2 hl3 hB.1
 have HX:=lH hx0
 have HB:=lH (show ∀ u,Below w.heap.size w u→B.le u.heap.size from fun u hu=>hB.mono hu.size)
 have HSm:=lH (show od.length≤maxLen from by unfold maxLen;omega)
 have hn3:n3≤1000000:=by omega
 have HE3:=lH e3
 obtain ⟨q0,q1,q2,q3,q4,q5⟩:=hx0.cells
 simp only at q0 q1 q2 q3 q4 q5
 have hcz:=nwC_size lb lq
 have h1c:=nwC_one lb lq
 have HV:=lH hV
 clear h hl1 hl2 hl3 hx0 hB h5 e1 e2 e3 hV
 cases hp:pairOk lb lq
 ·have HP:=lH hp
  have HZ:Hid (rightN (lb,lq,(bu,se,nn),od)=false):=lH (by unfold rightN;simp only;rw [hp];rfl)
  clear hp
  go_enter Tryz.func63,Tryz.ntmps63
  go_wp2_with fail
  rw [← HV.out]
  refine (rNew10_is HP V).mono ?_
  rintro e w1 ⟨rfl,hb1⟩
  simp only [Bool.false_eq_true,if_false]
  go_wp2
  go_ret
  exact ⟨ret_bool HZ.out.symm,nx hbV (nx hb1 (below1 _ _))⟩
 have HP:=lH hp
 clear hp
 go_enter Tryz.func63,Tryz.ntmps63
 go_wp2_with fail
 rw [← HV.out]
 refine (rNew10_is HP V).mono ?_
 rintro e w1 ⟨rfl,hb1⟩
 simp only [if_true]
 obtain ⟨M,hM⟩:∃ M,M=w1.alloc (.cells (nwC lb lq) 59):=⟨_,rfl⟩
 have hbM:Below V.heap.size V M:=nx hb1 (hM ▸ below1 w1 _)
 have hbwM:=nx hbV hbM
 have HXM:=lH (HX.out.stays hbM)
 have hz1:=hb1.size
 have z1:w.heap.size<w1.heap.size:=by omega
 clear q0 q1 q2 q3 q4 q5
 obtain ⟨r0,r1,r2,r3,r4,r5⟩:=(HX.out.stays hb1).cells
 simp only at r0 r1 r2 r3 r4 r5
 have HM:=lH hM
 clear hM
 obtain ⟨rb,hrb⟩:∃ r,rightB (bu,se,nn)=r:=⟨_,rfl⟩
 have HRb:=lH hrb
 clear hrb
 go_wp2_with fail
 rw [← HM.out]
 refine (rRightB_is HRb HXM.out.bl (HB.out M hbwM) h1 h2 h3 h4).mono ?_
 rintro e w2 ⟨rfl,hb2⟩
 have hbw2:=nx hbwM hb2
 have HX2:=lH (HXM.out.stays hb2)
 clear r0 r1 r2 r3 r4 r5 z1
 obtain ⟨r0,r1,r2,r3,r4,r5⟩:=HX2.out.cells
 simp only at r0 r1 r2 r3 r4 r5
 have z2:w.heap.size<w2.heap.size:=HX2.out.lt
 cases rb
 ·have HZ:Hid (rightN (lb,lq,(bu,se,nn),od)=false):=lH (by unfold rightN;simp only;rw [HRb.out,Bool.and_false,Bool.false_and,Bool.false_and])
  go_wp2
  go_ret
  exact ⟨ret_bool HZ.out.symm,hbw2⟩
 obtain ⟨ra,hra⟩:∃ r,Ac.right od=r:=⟨_,rfl⟩
 have HRa:=lH hra
 clear hra
 go_wp2_with fail
 refine (Ac.rRight_is HRa w2 HX2.out.l3 HSm.out).mono ?_
 rintro e w3 ⟨rfl,hb3⟩
 have hbw3:=nx hbw2 hb3
 have HX3:=lH (HX2.out.stays hb3)
 clear r0 r1 r2 r3 r4 r5 z2
 obtain ⟨r0,r1,r2,r3,r4,r5⟩:=HX3.out.cells
 simp only at r0 r1 r2 r3 r4 r5
 have z3:w.heap.size<w3.heap.size:=HX3.out.lt
 cases ra
 ·have HZ:Hid (rightN (lb,lq,(bu,se,nn),od)=false):=lH (by unfold rightN;simp only;rw [HRa.out,Bool.and_false,Bool.false_and])
  go_wp2
  go_ret
  exact ⟨ret_bool HZ.out.symm,hbw3⟩
 have HOn:Hid (rightN (lb,lq,(bu,se,nn),od)=only lb lq od):=lH (by unfold rightN;simp only;rw [HP.out,HRb.out,HRa.out];rfl)
 go_wp2
 go_loopw [6,32] (fun _ i wr=>∃ k:Nat,k≤n3∧i=.int .i64 k∧Below w3.heap.size w3 wr∧only lb lq (od.take k)=true) (fun _ i _=>n3 - (intOf i).toNat)
 case atStart=>exact ⟨0,Nat.zero_le _,rfl,Below.refl _ _,by simp [only]⟩
 case round =>
  obtain ⟨k,hk,rfl,hb,ho⟩:=hrel
  have HO:=lH ho
  have hbw:=nx hbw3 hb
  have hxr:=HX3.out.stays hb
  clear ho r0 r1 r2 r3 r4 r5 z3
  obtain ⟨r0,r1,r2,r3,r4,r5⟩:=hxr.cells
  simp only at r0 r1 r2 r3 r4 r5
  have zr:w.heap.size<wr.heap.size:=hxr.lt
  by_cases hlt:k<n3
  ·have hlt2:(k:Int)<n3:=by omega
   have hko:k<od.length:=by rw [HE3.out];exact hlt
   have hl:=hxr.l3
   simp only at hl
   rw [← HE3.out] at hl
   rcases hl.cases with ⟨e,_⟩ | ⟨_,g,off,cc,e,hat⟩
   ·rw [e] at hko;cases hko
   simp only [Value.slice.injEq] at e
   obtain ⟨rfl,_,rfl⟩:=e
   obtain ⟨s0,s1,s2⟩:=Ac.at3 hat k hko
   have hbb:=hat.1
   have hst:=only_take (b:=lb) (q:=lq) hko
   rw [HO.out,Bool.true_and] at hst
   obtain ⟨⟨x,y,z⟩,hx⟩:∃ x,od[k]'hko=x:=⟨_,rfl⟩
   rw [hx] at s0 s1 s2 hst
   simp only at s0 s1 s2
   have HSt:=lH (show only lb lq (od.take (k+1))=(y==lb||y==lq) from hst)
   have hHx:=lH hx
   clear hst hx hat hl hxr
   by_cases d1:y=lb
   ·have f1:(y != lb)=false:=by simpa using d1
    have HS1:Hid (only lb lq (od.take (k+1))=true):=lH (by rw [HSt.out,Bool.or_eq_true];exact .inl (by simpa using d1))
    clear d1
    go_wp2
    go_roundw
    case rel=>exact ⟨k+1,by omega,by go_num,nx hb (below1 _ _),HS1.out⟩
    case measure=>simp [intOf];omega
   ·have f1:(y != lb)=true:=by simpa using d1
    by_cases d2:y=lq
    ·have f2:(y != lq)=false:=by simpa using d2
     have HS1:Hid (only lb lq (od.take (k+1))=true):=lH (by rw [HSt.out,Bool.or_eq_true];exact .inr (by simpa using d2))
     clear d1 d2
     go_wp2
     go_roundw
     case rel=>exact ⟨k+1,by omega,by go_num,nx hb (below1 _ _),HS1.out⟩
     case measure=>simp [intOf];omega
    ·have f2:(y != lq)=true:=by simpa using d2
     have HZ:Hid (rightN (lb,lq,(bu,se,nn),od)=false):=lH (by
      rw [HOn.out]
      refine only_no hko ?_
      rw [hHx.out]
      show (y==lb||y==lq)=false
      simp [d1,d2])
     clear d1 d2
     go_wp2
     go_ret
     exact ⟨ret_bool HZ.out.symm,nx hbw (below1 _ _)⟩
  ·obtain rfl:k=n3:=by omega
   have HZ:Hid (rightN (lb,lq,(bu,se,nn),od)=true):=lH (by rw [HOn.out,← HO.out,← HE3.out,List.take_length])
   clear hlt
   go_wp2
   go_ret
   exact ⟨ret_bool HZ.out.symm,hbw⟩
structure Sm (l:Ln):Prop where
 m1:l.2.2.1.1.length≤1000
 m2:(flat l.2.2.1.1).length≤1000
 m3:l.2.2.1.2.1.length≤1000
 m4:(flat l.2.2.1.2.1).length≤1000
 m5:l.2.2.2.length≤1000
theorem rRight10_is {B:Bs} {l:Ln} {v:Value} {w:World} {r:Bool} (hr:Hid (rightN l=r)) (h:LN B l v w) (hB:B.le w.heap.size) (hs:Sm l) :
  Calls Tryz.prog 63 #[v] w fun e w'=>e=.returned (.bool r)∧Below w.heap.size w w':=by
 rw [← hr.out]
 exact rRight10_any B l v w h hB (Nat.le_trans hs.m1 (by decide)) (Nat.le_trans hs.m2 (by decide)) (Nat.le_trans hs.m3 (by decide)) (Nat.le_trans hs.m4 (by decide)) (Nat.le_trans hs.m5 (by decide))
theorem rsv_take {b q a:Int} {l:List Od} {k:Nat} (h:k<l.length):rsv b q a (l.take (k+1))=rsv b q a (l.take k)+(if ndA b q l[k].2.2.1=a then ndN l[k].2.2.1 l[k].2.2.2.1 l[k].2.2.2.2 else 0):=by
 rw [Da.take_snoc h,rsv_app,rsv,rsv,Int.add_zero]
end Go.Proofs.YtjhocpcpkemcaaaGreat.La
