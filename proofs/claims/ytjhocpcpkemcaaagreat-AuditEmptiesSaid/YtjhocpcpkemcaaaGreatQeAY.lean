/- Parts of a slice: 's[:k]' and 's[k:]'. Of no program. -/
import Derived.Test.YtjhocpcpkemcaaaGreatQeZZ
import Derived.Test.YtjhocpcpkemcaaaGreatQeAM
import Derived.WalkKit
import Derived.Test.YtjhocpcpkemcaaaGreatQeAV
import Derived.Test.YtjhocpcpkemcaaaGreatQeAW
import Derived.Test.YtjhocpcpkemcaaaGreatQeAH
import Derived.Test.YtjhocpcpkemcaaaGreatQeAN
import Derived.WalkMore
import Derived.Deep.LoopGhost
import Derived.Test.YtjhocpcpkemcaaaGreatQeAX
import Derived.Test.YtjhocpcpkemcaaaGreatQeAK
import Derived.Test.YtjhocpcpkemcaaaGreatQeAO
import Derived.RegionTactic
set_option linter.unusedVariables false
set_option maxRecDepth 16000
set_option maxHeartbeats 32000000
namespace Go.Proofs.YtjhocpcpkemcaaaGreat.Da
open Go.RowKit
def capOk:Value→Prop
 | .slice _ n c=>n≤c
 | _=>False
def cutHi (s k:Nat):Value→Value
 | .slice a _ c=>.slice (if c=0 then a else a.map (·.add (0*s))) (k - 0) (c - 0)
 | v=>v
def cutLo (s k:Nat):Value→Value
 | .slice a n c=>.slice (if c=k then a else a.map (·.add (k*s))) (n - k) (c - k)
 | v=>v
theorem add_at (b off j:Nat):(⟨b,off,none⟩:Addr).add j=⟨b,off+j,none⟩:=by
 unfold Addr.add
 split
 ·rename_i h;rw [h];rfl
 ·rfl
section
variable {α:Type} {e:Enc α} {T:TypeId}
theorem Own.cap {B:Bs} {Bo:Nat} {l:List α} {v:Value} {w:World} (h:Own e T B Bo l v w):capOk v:=by
 obtain ⟨css,_,_,_,hr⟩:=h
 rcases hr with ⟨rfl,_⟩ | ⟨g,c,cur,rfl,_,_,hc,_⟩
 ·exact Nat.le_refl 0
 ·exact hc
theorem Is.cutHi {B:Bs} {l:List α} {v:Value} {w:World} (h:Is e T B l v w) {k:Nat} (hk:k≤l.length):Is e T B (l.take k) (cutHi e.k k v) w:=by
 obtain ⟨a,c,rfl,h⟩:=h
 have hl:(l.take k).length=k:=by rw [List.length_take];omega
 refine ⟨_,_,by unfold Da.cutHi;rw [hl,Nat.sub_zero],?_⟩
 rcases h with ⟨rfl,hc⟩ | ⟨b,off,rfl,h1,h2,h3⟩
 ·left
  refine ⟨by simp,fun ha=>?_⟩
  cases a with
  | none=>simp [hc rfl]
  | some a=>split at ha<;>simp at ha
 ·right
  refine ⟨b,off,?_,h1,h2,fun i x hx=>?_⟩
  ·split
   ·rfl
   ·simp [add_at]
  ·rw [List.getElem?_take] at hx
   split at hx
   ·exact h3 i x hx
   ·cases hx
theorem Is.cutLo {B:Bs} {l:List α} {v:Value} {w:World} (h:Is e T B l v w) (hc:capOk v) {k:Nat} (hk:k≤l.length):Is e T B (l.drop k) (cutLo e.k k v) w:=by
 obtain ⟨a,c,rfl,h⟩:=h
 have hc:l.length≤c:=hc
 have hl:(l.drop k).length=l.length - k:=List.length_drop
 refine ⟨_,_,by unfold Da.cutLo;rw [hl],?_⟩
 rcases h with ⟨rfl,hc0⟩ | ⟨b,off,rfl,h1,h2,h3⟩
 ·left
  refine ⟨by simp,fun ha=>?_⟩
  cases a with
  | none=>simp [hc0 rfl]
  | some a=>split at ha<;>simp at ha
 ·by_cases e0:c=k
  ·left
   refine ⟨List.drop_eq_nil_of_le (by omega),fun ha=>?_⟩
   rw [if_pos e0] at ha;cases ha
  ·right
   refine ⟨b,off+k*e.k,by rw [if_neg e0];simp [add_at],h1,h2,fun i x hx=>?_⟩
   rw [List.getElem?_drop] at hx
   obtain ⟨cs,hR,hu⟩:=h3 (k+i) x hx
   refine ⟨cs,hR,fun j u hj=>?_⟩
   have:=hu j u hj
   rw [show off+k*e.k+i*e.k+j=off+(k+i)*e.k+j by rw [Nat.add_mul];omega]
   exact this
theorem capOk_len {B:Bs} {l:List α} {v:Value} {w:World} (h:Is e T B l v w) (hc:capOk v):∃ a c,v=.slice a l.length c∧l.length≤c:=by
 obtain ⟨a,c,rfl,_⟩:=h
 exact ⟨a,c,rfl,hc⟩
variable {P:Program} {t:TypeId} {k bytes:Nat} (ρ:Operand→Value) (dst:Option Tmp) (ty:TypeId) (pos:String) (after:Array Edge) (guard:Option (Nat × Bool)) (w:World)
theorem exec_cutHi (E:Elem P t T k bytes) (x y:Operand) {a:Option Addr} {n c m:Nat} (hx:ρ x=.slice a n c) (hy:ρ y=.int .i64 (m:Nat)) (hm:m≤c) :
  (execOp ρ { dst,op:=.slice t x none (some y) none,type:=ty,pos,after,guard }).run P w=.ok (.value (Da.cutHi k m (.slice a n c))) w:=by
 obtain ⟨i,z,hi,hz,hs,hb,hzs⟩:=E.ex
 have hm0:(0:Int)≤m:=by omega
 simp [execOp,hx,hy,Instr.sliceAt,Instr.slice,Instr.sliceBounds,Instr.sliceBound,asIntOf,run_underlying E.ht,sizeOf,typeInfo,hi,hm0,Da.cutHi]
 intro hh;omega
theorem exec_cutLo (E:Elem P t T k bytes) (x y:Operand) {a:Option Addr} {n c m:Nat} (hx:ρ x=.slice a n c) (hy:ρ y=.int .i64 (m:Nat)) (hm:m≤n) :
  (execOp ρ { dst,op:=.slice t x (some y) none none,type:=ty,pos,after,guard }).run P w=.ok (.value (Da.cutLo k m (.slice a n c))) w:=by
 obtain ⟨i,z,hi,hz,hs,hb,hzs⟩:=E.ex
 have hm0:(0:Int)≤m:=by omega
 simp [execOp,hx,hy,Instr.sliceAt,Instr.slice,Instr.sliceBounds,Instr.sliceBound,asIntOf,run_underlying E.ht,sizeOf,typeInfo,hi,hs,hm0,Da.cutLo]
 intro hh;omega
def natOf:Value→Nat
 | .int _ i=>i.toNat
 | _=>0
def hiOk:Value→Value→Bool
 | .slice _ _ c,.int .i64 i=>decide (0≤i∧i≤c)
 | _,_=>false
def loOk:Value→Value→Bool
 | .slice _ n _,.int .i64 i=>decide (0≤i∧i≤n)
 | _,_=>false
theorem hiOk_at (a:Option Addr) (n c m:Nat):hiOk (.slice a n c) (.int .i64 (m:Nat))=decide (m≤c):=by simp [hiOk]
theorem loOk_at (a:Option Addr) (n c m:Nat):loOk (.slice a n c) (.int .i64 (m:Nat))=decide (m≤n):=by simp [loOk]
theorem natOf_at (k:IntKind) (m:Nat):natOf (.int k (m:Nat))=m:=rfl
theorem exec_hi (E:Elem P t T k bytes) (x y:Operand) (h:hiOk (ρ x) (ρ y)=true) :
  (execOp ρ { dst,op:=.slice t x none (some y) none,type:=ty,pos,after,guard }).run P w=.ok (.value (Da.cutHi k (natOf (ρ y)) (ρ x))) w:=by
 generalize hx:ρ x=X at h ⊢
 generalize hy:ρ y=Y at h ⊢
 match X,Y,h with
 | .slice a n c,.int .i64 i,h =>
  have h:=of_decide_eq_true h
  obtain ⟨m,rfl⟩:∃ m:Nat,i=m:=⟨i.toNat,by omega⟩
  exact exec_cutHi (m:=m) ρ dst ty pos after guard w E x y hx hy (by omega)
theorem exec_lo (E:Elem P t T k bytes) (x y:Operand) (h:loOk (ρ x) (ρ y)=true) :
  (execOp ρ { dst,op:=.slice t x (some y) none none,type:=ty,pos,after,guard }).run P w=.ok (.value (Da.cutLo k (natOf (ρ y)) (ρ x))) w:=by
 generalize hx:ρ x=X at h ⊢
 generalize hy:ρ y=Y at h ⊢
 match X,Y,h with
 | .slice a n c,.int .i64 i,h =>
  have h:=of_decide_eq_true h
  obtain ⟨m,rfl⟩:∃ m:Nat,i=m:=⟨i.toNat,by omega⟩
  exact exec_cutLo (m:=m) ρ dst ty pos after guard w E x y hx hy (by omega)
end
attribute [go_sem] hiOk_at loOk_at natOf_at
end Go.Proofs.YtjhocpcpkemcaaaGreat.Da
namespace Go.Proofs.YtjhocpcpkemcaaaGreat.Ex
open Go.RowKit
open Rw
open Da
open Le (LL eL Lv flat low_setCell keeps_setCell)
open La (Ln LN LB cN eH hl_is is_hl elemH typesH own_h)
open Ac (Hd Pu HL)
open Se (NL eS Sn Rp)
def eHs:Enc (List Hd):=Enc.slice eH 52
def eLs:Enc (List Lv):=Enc.slice eL 106
def eN:Enc Ln:=Enc.both Le.eI (Enc.both Le.eI (Enc.both (Enc.both eLs (Enc.both eLs Le.eI)) eHs))
theorem eN_cells {B:Bs} {l:Ln} {cs:List Value} {w:World} (h:eN.R B l cs w):∃ x y o,cs=[.int .i64 l.1,.int .i64 l.2.1,x,y,.int .i64 l.2.2.1.2.2,o]∧LL B l.2.2.1.1 x w∧LL B l.2.2.1.2.1 y w∧Is eH 52 B l.2.2.2 o w:=by
 obtain ⟨_,_,rfl,rfl,_,_,rfl,rfl,_,_,rfl,⟨_,_,rfl,⟨x,rfl,hx⟩,_,_,rfl,⟨y,rfl,hy⟩,rfl⟩,⟨o,rfl,ho⟩⟩:=h
 exact ⟨x,y,o,rfl,hx,hy,ho⟩
theorem eN_mk {B:Bs} {l:Ln} {x y o:Value} {w:World} (hx:LL B l.2.2.1.1 x w) (hy:LL B l.2.2.1.2.1 y w) (ho:Is eH 52 B l.2.2.2 o w):eN.R B l [.int .i64 l.1,.int .i64 l.2.1,x,y,.int .i64 l.2.2.1.2.2,o] w :=
 ⟨[_],_,rfl,rfl,[_],_,rfl,rfl,[_,_,_],[_],rfl,⟨[_],[_,_],rfl,⟨x,rfl,hx⟩,[_],[_],rfl,⟨y,rfl,hy⟩,rfl⟩,⟨o,rfl,ho⟩⟩
abbrev NsL (n:Nat) (l:List Ln) (v:Value) (w:World):Prop:=Is eN 59 (Bs.of n) l v w
theorem atN {n:Nat} {l:List Ln} {b off:Nat} {w:World} (h:Lies eN 59 (Bs.of n) l b off w) (i:Nat) (hi:i<l.length) :
  ∃ a1 n1 c1 a2 n2 c2 a3 n3 c3,LN (Bs.of n) l[i] (.agg (cN l[i].1 l[i].2.1 (.slice a1 n1 c1) (.slice a2 n2 c2) l[i].2.2.1.2.2 (.slice a3 n3 c3))) w∧w.cell? ⟨b,off+i*6,none⟩=some (.int .i64 l[i].1)∧w.cell? ⟨b,off+i*6+1,none⟩=some (.int .i64 l[i].2.1)∧w.cell? ⟨b,off+i*6+2,none⟩=some (.slice a1 n1 c1)
  ∧w.cell? ⟨b,off+i*6+3,none⟩=some (.slice a2 n2 c2)∧w.cell? ⟨b,off+i*6+4,none⟩=some (.int .i64 l[i].2.2.1.2.2)∧w.cell? ⟨b,off+i*6+5,none⟩=some (.slice a3 n3 c3):=by
 obtain ⟨cs,hc,hu⟩:=h.at i hi
 obtain ⟨x,y,o,rfl,hx,hy,ho⟩:=eN_cells hc
 obtain ⟨a1,c1,rfl⟩:=hx.len
 obtain ⟨a2,c2,rfl⟩:=hy.len
 obtain ⟨a3,c3,rfl⟩:=ho.len
 exact ⟨a1,_,c1,a2,_,c2,a3,_,c3,⟨_,_,_,rfl,hx,hy,is_hl ho⟩,hu 0 _ rfl,hu 1 _ rfl,hu 2 _ rfl,hu 3 _ rfl,hu 4 _ rfl,hu 5 _ rfl⟩
theorem typesN:59 ∉ eN.ts:=by decide
theorem infoN:(Tryz.prog.info? 59).map (fun i=>(i.zero,i.size,i.bytes))=some (some (.agg #[.int .i64 0,.int .i64 0,.slice none 0 0,.slice none 0 0,.int .i64 0,.slice none 0 0]),6,96):=by kernel_rfl
theorem elemN:Elem Tryz.prog 25 59 eN.k 96:=elem_of Tryz.underlying25 infoN rfl (by decide)
structure XD (n:Nat) (x:Xc) (f l s i o:Value) (w:World):Prop where
 free:HL n x.free f w
 lanes:NsL n x.lanes l w
 sess:NL (Bs.of n) x.sess s w
 inn:HL n x.inn i w
 out:HL n x.out o w
 cap:capOk l
def xts:List TypeId:=59 :: eN.ts++(54 :: eS.ts)++[52]
theorem XD.keep {n:Nat} {x:Xc} {f l s i o:Value} {w w':World} (h:XD n x f l s i o w) (k:Da.Keeps (Bs.of n) xts w w'):XD n x f l s i o w':=by
 have kh:Da.Keeps (Bs.of n) [52] w w':=k.less (by decide)
 exact ⟨La.hl_keep h.free kh,h.lanes.keep eN 59 (k.less (by decide)),h.sess.keep eS 54 (k.less (by decide)),La.hl_keep h.inn kh,La.hl_keep h.out kh,h.cap⟩
theorem XD.stays {n:Nat} {x:Xc} {f l s i o:Value} {w w':World} (h:XD n x f l s i o w) (k:Below w.heap.size w w'):XD n x f l s i o w':=h.keep (Keeps.of_below k)
def XV (n:Nat) (x:Xc) (v:Value) (w:World):Prop:=∃ f l s i o,v=.agg #[f,l,s,i,o]∧XD n x f l s i o w
theorem XV.stays {n:Nat} {x:Xc} {v:Value} {w w':World} (h:XV n x v w) (k:Below w.heap.size w w'):XV n x v w':=by
 obtain ⟨f,l,s,i,o,rfl,h⟩:=h;exact ⟨f,l,s,i,o,rfl,h.stays k⟩
theorem XD.open' {n:Nat} {x:Xc} {f l s i o:Value} {w:World} (h:XD n x f l s i o w):∃ a1 c1 a2 c2 a3 c3 a4 c4 a5 c5,f=.slice a1 x.free.length c1∧l=.slice a2 x.lanes.length c2∧s=.slice a3 x.sess.length c3∧i=.slice a4 x.inn.length c4∧o=.slice a5 x.out.length c5:=by
 obtain ⟨a1,c1,h1⟩:=La.hl_slice h.free
 obtain ⟨a2,c2,h2⟩:=h.lanes.len
 obtain ⟨a3,c3,h3⟩:=h.sess.len
 obtain ⟨a4,c4,h4⟩:=La.hl_slice h.inn
 obtain ⟨a5,c5,h5⟩:=La.hl_slice h.out
 exact ⟨a1,c1,a2,c2,a3,c3,a4,c4,a5,c5,h1,h2,h3,h4,h5⟩
structure XB (n:Nat) (x:Xc) (f l s i o:Value) (b:Nat) (w:World):Prop where
 bk:w.heap[b]?=some (.cells #[f,l,s,i,o] 28 (0,0))
 lo:n≤b
 d:XD n x f l s i o w
theorem XB.lt {n:Nat} {x:Xc} {f l s i o:Value} {b:Nat} {w:World} (h:XB n x f l s i o b w):b<w.heap.size:=(Array.getElem?_eq_some_iff.1 h.bk).1
theorem XB.stays {n:Nat} {x:Xc} {f l s i o:Value} {b:Nat} {w w':World} (h:XB n x f l s i o b w) (k:Below w.heap.size w w'):XB n x f l s i o b w':=⟨(k.block b h.lt).trans h.bk,h.lo,h.d.stays k⟩
theorem XB.row {n:Nat} {x:Xc} {f l s i o:Value} {b:Nat} {w:World} (h:XB n x f l s i o b w):row w b=#[f,l,s,i,o]:=by unfold Rw.row;rw [h.bk]
theorem XB.cells {n:Nat} {x:Xc} {f l s i o:Value} {b:Nat} {w:World} (h:XB n x f l s i o b w):w.cell? ⟨b,0,none⟩=some f∧w.cell? ⟨b,1,none⟩=some l∧w.cell? ⟨b,2,none⟩=some s∧w.cell? ⟨b,3,none⟩=some i∧w.cell? ⟨b,4,none⟩=some o:=by
 refine ⟨?_,?_,?_,?_,?_⟩<;>simp [World.cell?,h.bk]
theorem XB.thawed {n:Nat} {x:Xc} {f l s i o:Value} {b:Nat} {w:World} (h:XB n x f l s i o b w) (k:Nat):w.frozen? ⟨b,k,none⟩=false:=by simp [World.frozen?,h.bk]
theorem XB.made {n:Nat} {x:Xc} {f l s i o:Value} {w:World} (h:XD n x f l s i o w) (hn:n≤w.heap.size):XB n x f l s i o w.heap.size (w.alloc (.cells #[f,l,s,i,o] 28)):=⟨heap_alloc_new w _,hn,h.stays (below1 _ _)⟩
theorem XB.set {n:Nat} {x y:Xc} {f l s i o f' l' s' i' o':Value} {b:Nat} {w:World} (k:Nat) (v:Value) (h:XB n x f l s i o b w) (hc:#[f',l',s',i',o']=(#[f,l,s,i,o]:Array Value).setIfInBounds k v) (hd:XD n y f' l' s' i' o' w):XB n y f' l' s' i' o' b (w.setCell ⟨b,k,none⟩ v) :=
 ⟨by rw [hc];exact La.setN k v h.bk,h.lo,hd.keep (keeps_setCell k v h.bk (by decide) h.lo)⟩
section
variable (ρ:Operand→Value) (dst:Option Tmp) (ty:TypeId) (pos:String) (after:Array Edge) (guard:Option (Nat × Bool)) (w:World)
theorem loadX (x:Operand) (h:(rowOf w (ρ x)).size=5):(execOp ρ { dst,op:=.load 28 x,type:=ty,pos,after,guard }).run Tryz.prog w=.ok (.value (.agg (rowOf w (ρ x)))) w :=
 exec_load (n:=4) ρ dst ty pos after guard w Tryz.underlying28 rfl (by kernel_rfl) x h
theorem storeX (p x:Operand) (h:plainAt 5 w (ρ p)=true) (hs:(ρ x).cells.size=5) (h1:oneAll (ρ x)=true) (ha:ρ x=.agg (ρ x).cells):(execOp ρ { dst,op:=.store 28 p x,type:=ty,pos,after,guard }).run Tryz.prog w=.ok .skip (putRow w (ρ p) (ρ x).cells) :=
 exec_store (n:=4) ρ dst ty pos after guard w (by kernel_rfl) p x h hs h1 ha
end
theorem one5s (a1 a2 a3 a4 a5:Option Addr) (n1 n2 n3 n4 n5 c1 c2 c3 c4 c5:Nat):oneAll (.agg #[.slice a1 n1 c1,.slice a2 n2 c2,.slice a3 n3 c3,.slice a4 n4 c4,.slice a5 n5 c5])=true:=by simp [oneAll,Value.cells,Value.oneCell']
attribute [go_sem ↓] loadX storeX
attribute [go_sem] one5s
theorem ret_X1 {fn:Func} {p:Tmp} (h:fn.results=#[.cell p 28]) (tmps:Array Value) (w:World) {cs:Array Value} (hs:cs.size=5) (hr:rowOf w (tmps.getD p undef)=cs):(results fn tmps).run Tryz.prog w=.ok (.agg cs) w :=
 ret1 (n:=4) h Tryz.underlying28 rfl (by kernel_rfl) tmps w hs hr
theorem ret_X2 {fn:Func} {p q:Tmp} (h:fn.results=#[.cell p 28,.tmp q]) (tmps:Array Value) (w:World) {cs:Array Value} (hs:cs.size=5) (hr:rowOf w (tmps.getD p undef)=cs):(results fn tmps).run Tryz.prog w=.ok (.tuple #[.agg cs,tmps.getD q undef]) w :=
 ret2 (n:=4) h Tryz.underlying28 rfl (by kernel_rfl) tmps w hs hr
theorem ret_XR {fn:Func} {p q:Tmp} (h:fn.results=#[.cell p 28,.cell q 37]) (tmps:Array Value) (w:World) {cs ds:Array Value} (hs:cs.size=5) (hr:rowOf w (tmps.getD p undef)=cs) (ks:ds.size=5) (kr:rowOf w (tmps.getD q undef)=ds):(results fn tmps).run Tryz.prog w=.ok (.tuple #[.agg cs,.agg ds]) w:=by
 obtain ⟨b,e,hl⟩:=read_cell (P:=Tryz.prog) (T:=28) (n:=4) Tryz.underlying28 rfl (by kernel_rfl) hr hs
 obtain ⟨b',e',hl'⟩:=read_cell (P:=Tryz.prog) (T:=37) (n:=4) Tryz.underlying37 rfl (by kernel_rfl) kr ks
 have hp:tmps[p]?.getD undef=.pointer (some ⟨b,0,none⟩):=by simpa using e
 have hq:tmps[q]?.getD undef=.pointer (some ⟨b',0,none⟩):=by simpa using e'
 simp [results,h,hp,hq,asAddr,hl,hl']
end Go.Proofs.YtjhocpcpkemcaaaGreat.Ex
namespace Go.Proofs.YtjhocpcpkemcaaaGreat.Ex
open Go.RowKit
open Rw
open Da
open Le (LL eL Lv flat low_setCell keeps_setCell Own.lower)
open La (Ln LN LB cN eH hl_is is_hl elemH typesH own_h)
open Ac (Hd Pu HL)
open Se (NL eS Sn Rp elemS typesS)
structure SmX (x:Xc):Prop where
 free:x.free.length≤1000
 lanes:x.lanes.length≤1000
 sess:x.sess.length≤1000
 inn:x.inn.length≤1000
 out:x.out.length≤1000
 lane:∀ l∈x.lanes,La.Sm l
def Post (F:Value→World→Prop) (w:World) (e:Ending) (w':World):Prop:=∃ v,e=.returned v∧Below w.heap.size w w'∧F v w'
end Go.Proofs.YtjhocpcpkemcaaaGreat.Ex
namespace Go.Proofs.YtjhocpcpkemcaaaGreat.Se
open Go.RowKit
open Rw
open Da
theorem getD_at {l:List Sn} {k:Nat} (h:k<l.length):l.getD k z7=l[k]:=by simp [List.getD,h]
theorem okAt_0 {l:List Sn} (h:0<l.length):okAt l 0=okS l[0]:=by unfold okAt;rw [getD_at h];simp
theorem okAt_succ {l:List Sn} {j:Nat} (h:j+1<l.length):okAt l (j+1)=(okS l[j+1]&&decide ((l[j]'(by omega)).1<l[j+1].1)):=by
 unfold okAt;rw [getD_at h,Nat.add_sub_cancel,getD_at (show j<l.length by omega)];simp
theorem okS_cases (s1 s2 s3 s4 s5 s6 s7:Int) :
  (okS (s1,s2,s3,s4,s5,s6,s7)=false∧((decide (s1<0)=true)∨(decide (s1<0)=false∧decide (64≤s1)=true)∨(decide (s1<0)=false∧decide (64≤s1)=false∧decide (s2<1)=true)∨(decide (s1<0)=false∧decide (64≤s1)=false∧decide (s2<1)=false∧decide (1125899906842624<s2)=true)
  ∨(decide (s1<0)=false∧decide (64≤s1)=false∧decide (s2<1)=false∧decide (1125899906842624<s2)=false∧(s3 != s1)=true)∨(decide (s1<0)=false∧decide (64≤s1)=false∧decide (s2<1)=false∧decide (1125899906842624<s2)=false∧(s3 != s1)=false∧(s4 != s2)=true)))
 ∨(okS (s1,s2,s3,s4,s5,s6,s7)=true∧decide (s1<0)=false∧decide (64≤s1)=false∧decide (s2<1)=false∧decide (1125899906842624<s2)=false∧(s3 != s1)=false∧(s4 != s2)=false):=by
 simp only [okS,decide_eq_true_eq,decide_eq_false_iff_not,bne_iff_ne,bne_eq_false_iff_eq,ne_eq]
 omega
theorem rRight_any (B:Bs) (l:List Sn) (v:Value) (w:World) (h:NL B l v w) (hm:l.length≤1000000) :
  Calls Tryz.prog 62 #[v] w fun e w'=>e=.returned (.bool (right l))∧Below w.heap.size w w':=by
 obtain ⟨a,cp,rfl,hel⟩:=h
 obtain ⟨n,hn⟩:∃ n,n=l.length:=⟨_,rfl⟩
 obtain ⟨r,hr⟩:∃ r,right l=r:=⟨_,rfl⟩
 rw [← hn] at hm ⊢
 rw [hr]
 have HN:=lH hn
 have HR:=lH hr
 have HE:=lH hel
 clear hn hr hel
 go_enter Tryz.func62,Tryz.ntmps62
 go_wp2
 go_loopw [7] (fun i wr=>∃ k:Nat,k≤n∧i=.int .i64 k∧Below w.heap.size w wr∧rightTo l k=true) (fun i _=>n - (intOf i).toNat)
 case atStart=>exact ⟨0,Nat.zero_le _,rfl,Below.refl _ _,rfl⟩
 case round =>
  obtain ⟨k,hk,rfl,hb,hto⟩:=hrel
  have HT:=lH hto
  clear hto
  by_cases hlt:k<n
  ·have hlt2:(k:Int)<n:=by omega
   have hkl:k<l.length:=by rw [← HN.out];exact hlt
   rcases HE.out with ⟨e,_⟩ | ⟨b,off,rfl,hat⟩
   ·rw [e] at hkl;cases hkl
   ·have hat3:=Lies.keep eS 54 hat (Keeps.of_below hb)
    have hc:=at7 hat3 k hkl
    have hb3:=hat3.1
    obtain ⟨⟨s1,s2,s3,s4,s5,s6,s7⟩,hs⟩:∃ s,l[k]=s:=⟨_,rfl⟩
    have HS:=lH hs
    rw [hs] at hc
    simp only at hc
    obtain ⟨c0,c1,c2,c3,c4,c5,c6⟩:=hc
    go_wp2
    obtain ⟨V,hV⟩:∃ V,V=wr.alloc (.cells #[.int .i64 s1,.int .i64 s2,.int .i64 s3,.int .i64 s4,.int .i64 s5,.int .i64 s6,.int .i64 s7] 54):=⟨_,rfl⟩
    have hbV:Below wr.heap.size wr V:=hV ▸ below1 wr _
    have hzV:wr.heap.size<V.heap.size:=by rw [hV];simp
    have hrow:row V wr.heap.size=#[.int .i64 s1,.int .i64 s2,.int .i64 s3,.int .i64 s4,.int .i64 s5,.int .i64 s6,.int .i64 s7]:=by rw [hV];simp [go_sem]
    have hF:∀ u,Below V.heap.size V u→u.cell? ⟨wr.heap.size,0,none⟩=some (.int .i64 s1)∧u.cell? ⟨wr.heap.size,1,none⟩=some (.int .i64 s2)∧u.cell? ⟨wr.heap.size,2,none⟩=some (.int .i64 s3)∧u.cell? ⟨wr.heap.size,3,none⟩=some (.int .i64 s4):=fun u hu=>by
     have hr:row u wr.heap.size=row V wr.heap.size:=(bcell hu).2.2.1 _ hzV
     have hs:(row u wr.heap.size).size=6+1:=by rw [hr,hrow];rfl
     exact ⟨by rw [cell_row _ _ _ hs,hr,hrow];rfl,by rw [cell_row _ _ _ hs,hr,hrow];rfl,by rw [cell_row _ _ _ hs,hr,hrow];rfl,by rw [cell_row _ _ _ hs,hr,hrow];rfl⟩
    have hbx:=nx hb hbV
    rw [← hV]
    clear hV hrow hs c0 c1 c2 c3 c4 c5 c6 hbV
    rcases okS_cases s1 s2 s3 s4 s5 s6 s7 with ⟨ho,hcs⟩ | ⟨ho,d1,d2,d3,d4,d5,d6⟩
    ·have HZ:Hid (r=false):=lH (by
      rw [← HR.out]
      refine right_no k hkl ?_
      unfold okAt;rw [getD_at hkl,HS.out,ho];rfl)
     clear ho hat hat3
     rcases hcs with d1 | ⟨d1,d2⟩ | ⟨d1,d2,d3⟩ | ⟨d1,d2,d3,d4⟩ | ⟨d1,d2,d3,d4,d5⟩ | ⟨d1,d2,d3,d4,d5,d6⟩
     all_goals
      refine Rg.region (by kernel_rfl) (by kernel_rfl) (by kernel_rfl) (fun _ _ d _ _ h=>by cases d<;>exact h) _ rfl ?_
      repeat (first | (refine Rg.Seq.skip (by rfl) ?_;simp only [Act.put,sA,sB,sC]) | (refine Rg.Seq.pure (v:=?_) (by rfl) ?_ ?_;rotate_left;(intro w_ hS_;have hk_:=hF w_ hS_;go_simp<;>with_reducible rfl);simp only [Act.put,sA,sB,sC]))
      intro w4 hb6
      go_wp2
      go_ret
      exact ⟨ret_bool HZ.out.symm,nx hbx hb6⟩
    ·have HO:=lH ho
     clear ho
     cases k with
     | zero =>
      have HZ:Hid (rightTo l 1=true):=lH (by rw [rightTo_succ,HT.out,okAt_0 hkl,HS.out,HO.out];rfl)
      clear hat hat3
      refine Rg.region (by kernel_rfl) (by kernel_rfl) (by kernel_rfl) (fun _ _ d _ _ h=>by cases d<;>exact h) _ rfl ?_
      repeat (first | (refine Rg.Seq.skip (by rfl) ?_;simp only [Act.put,sA,sB,sC]) | (refine Rg.Seq.pure (v:=?_) (by rfl) ?_ ?_;rotate_left;(intro w_ hS_;have hk_:=hF w_ hS_;go_simp<;>with_reducible rfl);simp only [Act.put,sA,sB,sC]))
      intro w4 hb6
      go_wp2
      go_roundw
      case rel=>exact ⟨1,by omega,by go_num,nx hbx hb6,HZ.out⟩
      case measure=>simp [intOf];omega
     | succ j =>
      have hjl:j<l.length:=by omega
      obtain ⟨p,hp⟩:∃ p,l[j].1=p:=⟨_,rfl⟩
      have HP:=lH hp
      have hF2:∀ u,Below V.heap.size V u→u.cell? ⟨wr.heap.size,0,none⟩=some (.int .i64 s1)∧u.cell? ⟨wr.heap.size,1,none⟩=some (.int .i64 s2)∧u.cell? ⟨wr.heap.size,2,none⟩=some (.int .i64 s3)∧u.cell? ⟨wr.heap.size,3,none⟩=some (.int .i64 s4)∧u.cell? ⟨b,off+j*7,none⟩=some (.int .i64 p):=fun u hu=>by
       obtain ⟨e0,e1,e2,e3⟩:=hF u hu
       exact ⟨e0,e1,e2,e3,by rw [← hp];exact (at7 (Lies.keep eS 54 hat (Keeps.of_below (nx hbx hu))) j hjl).1⟩
      have hj0:(0:Int)≤j:=by omega
      have hjn:(j:Int)<n:=by omega
      have d7:decide ((0:Int)<(j:Int)+1)=true:=by rw [decide_eq_true_eq];omega
      have d8:(j:Int)+1 - 1=j:=by omega
      have d9:IntKind.i64.wrap (j:Int)=j:=IntWalk.i64_in _ (by omega)
      clear hF hat hat3 hp
      by_cases hl:s1≤p
      ·have d10:decide (s1≤p)=true:=decide_eq_true hl
       have HZ:Hid (r=false):=lH (by
        rw [← HR.out]
        refine right_no (j+1) hkl ?_
        rw [okAt_succ hkl,HS.out,HO.out,HP.out,Bool.true_and]
        exact decide_eq_false (by show ¬ p<s1;omega))
       clear hl
       refine Rg.region (by kernel_rfl) (by kernel_rfl) (by kernel_rfl) (fun _ _ d _ _ h=>by cases d<;>exact h) _ rfl ?_
       repeat (first | (refine Rg.Seq.skip (by rfl) ?_;simp only [Act.put,sA,sB,sC]) | (refine Rg.Seq.pure (v:=?_) (by rfl) ?_ ?_;rotate_left;(intro w_ hS_;have hk_:=hF2 w_ hS_;go_simp<;>with_reducible rfl);simp only [Act.put,sA,sB,sC]))
       intro w4 hb6
       go_wp2
       go_ret
       exact ⟨ret_bool HZ.out.symm,nx hbx hb6⟩
      ·have d10:decide (s1≤p)=false:=decide_eq_false hl
       have HZ:Hid (rightTo l (j+1+1)=true):=lH (by
        rw [rightTo_succ,HT.out,okAt_succ hkl,HS.out,HO.out,HP.out,Bool.true_and,Bool.true_and]
        exact decide_eq_true (by show p<s1;omega))
       clear hl
       refine Rg.region (by kernel_rfl) (by kernel_rfl) (by kernel_rfl) (fun _ _ d _ _ h=>by cases d<;>exact h) _ rfl ?_
       repeat (first | (refine Rg.Seq.skip (by rfl) ?_;simp only [Act.put,sA,sB,sC]) | (refine Rg.Seq.pure (v:=?_) (by rfl) ?_ ?_;rotate_left;(intro w_ hS_;have hk_:=hF2 w_ hS_;go_simp<;>with_reducible rfl);simp only [Act.put,sA,sB,sC]))
       intro w4 hb6
       go_wp2
       go_roundw
       case rel=>exact ⟨j+1+1,by omega,by go_num,nx hbx hb6,HZ.out⟩
       case measure=>simp [intOf];omega
  ·obtain rfl:k=n:=by omega
   have HZ:Hid (r=true):=lH (by rw [← HR.out];unfold right;rw [← HN.out];exact HT.out)
   go_wp2
   go_ret
   exact ⟨ret_bool HZ.out.symm,hb⟩
theorem first_is {q:Option Sn} {c:Int} {l:List Sn} (H:Hid (fnd c l=q)) {B:Bs} {v:Value} {w:World} (h:NL B l v w) (hm:l.length≤1000000) :
  Calls Tryz.prog 65 #[v,.int .i64 c] w fun e w'=>e=.returned (fV q)∧Below w.heap.size w w':=by
 rw [← H.out];exact first_any B l v c w h hm
def lastQ:Option Sn→Int
 | none=>0
 | some s=>s.2.1
def lookQ (x:Int):Option Sn→Rp × Int
 | none=>(z5,8)
 | some s=>if s.2.1<x then (z5,8) else if x<s.2.1 then (z5,13) else (s.2.2,0)
theorem last_of {c:Int} {l:List Sn} {q:Option Sn} (h:fnd c l=q):last c l=lastQ q:=by unfold last;rw [h];cases q<;>rfl
theorem look_of {c x:Int} {l:List Sn} {q:Option Sn} (h:fnd c l=q):look c x l=lookQ x q:=by unfold look;rw [h];cases q<;>rfl
theorem last_any (B:Bs) (l:List Sn) (v:Value) (c:Int) (w:World) (h:NL B l v w) (hm:l.length≤1000000) :
  Calls Tryz.prog 25 #[v,.int .i64 c] w fun e w'=>e=.returned (.int .i64 (last c l))∧Below w.heap.size w w':=by
 obtain ⟨q,hq⟩:∃ q,fnd c l=q:=⟨_,rfl⟩
 have H:=lH hq
 have HL:=lH (last_of hq)
 have HH:=lH h
 clear hq h
 rcases q with _ | ⟨s1,s2,s3,s4,s5,s6,s7⟩
 ·go_enter Tryz.func25,Tryz.ntmps25
  go_wp2_with fail
  refine (first_is H HH.out hm).mono ?_
  rintro e w1 ⟨rfl,hb1⟩
  unfold fV
  go_wp2
  go_ret
  exact ⟨ret_int HL.out.symm,nx hb1 (below1 _ _)⟩
 ·go_enter Tryz.func25,Tryz.ntmps25
  go_wp2_with fail
  refine (first_is H HH.out hm).mono ?_
  rintro e w1 ⟨rfl,hb1⟩
  unfold fV
  go_wp2
  go_ret
  exact ⟨ret_int HL.out.symm,nx hb1 (below1 _ _)⟩
def lkV (p:Rp × Int):Value:=.tuple #[.agg #[.int .i64 p.1.1,.int .i64 p.1.2.1,.int .i64 p.1.2.2.1,.int .i64 p.1.2.2.2.1,.int .i64 p.1.2.2.2.2],.int .i64 p.2]
theorem look_any (B:Bs) (l:List Sn) (v:Value) (c x:Int) (w:World) (h:NL B l v w) (hm:l.length≤1000000) :
  Calls Tryz.prog 42 #[v,.int .i64 c,.int .i64 x] w fun e w'=>e=.returned (lkV (look c x l))∧Below w.heap.size w w':=by
 obtain ⟨q,hq⟩:∃ q,fnd c l=q:=⟨_,rfl⟩
 have H:=lH hq
 have HL:=lH (look_of (x:=x) hq)
 clear hq
 obtain ⟨W,hW⟩:∃ W,W=w.alloc (.cells #[.int .i64 0,.int .i64 0,.int .i64 0,.int .i64 0,.int .i64 0] 37):=⟨_,rfl⟩
 have hbW:Below w.heap.size w W:=hW ▸ below1 w _
 have hz:w.heap.size<W.heap.size:=by rw [hW];simp
 have hpl:plain 5 W w.heap.size=true:=by rw [hW];simp [go_sem]
 have HW:=lH hW
 have HH:=lH (Is.stays eS 54 h hbW)
 clear hW h
 rcases q with _ | ⟨s1,s2,s3,s4,s5,s6,s7⟩
 ·go_enter Tryz.func42,Tryz.ntmps42
  go_wp2_with fail
  rw [← HW.out]
  refine (first_is H HH.out hm).mono ?_
  rintro e w1 ⟨rfl,hb1⟩
  have hz1:w.heap.size<w1.heap.size:=by have:=hb1.size;omega
  have hp1:plain 5 w1 w.heap.size=true:=by rw [(bcell hb1).2.2.2 _ _ hz];exact hpl
  unfold fV
  go_wp2
  refine bodyPost_ret (v:=lkV (z5,8)) (ret_R2 Tryz.results42 _ _ rfl ?c1) rfl ⟨by rw [HL.out];rfl,?c2⟩
  case c1=>exact (row_past _ _ _ (by rw [setRow_size];exact hz1)).trans (row_set _ hp1)
  case c2=>exact (below_setRow (nx hbW hb1) (Nat.le_refl _) _).alloc (by rw [setRow_size];omega) _
 ·have h3:∃ r k,look c x l=(r,k)∧((decide (s2<x)=true∧r=z5∧k=8)∨(decide (s2<x)=false∧decide (x<s2)=true∧r=z5∧k=13)∨(decide (s2<x)=false∧decide (x<s2)=false∧r=(s3,s4,s5,s6,s7)∧k=0)):=by
   rw [HL.out]
   unfold lookQ
   by_cases e1:s2<x
   ·exact ⟨z5,8,by simp [e1],.inl ⟨decide_eq_true e1,rfl,rfl⟩⟩
   ·by_cases e2:x<s2
    ·exact ⟨z5,13,by simp [e1,e2],.inr (.inl ⟨decide_eq_false e1,decide_eq_true e2,rfl,rfl⟩)⟩
    ·exact ⟨_,0,by simp [e1,e2],.inr (.inr ⟨decide_eq_false e1,decide_eq_false e2,rfl,rfl⟩)⟩
  obtain ⟨r,k,hl,hcs⟩:=h3
  rw [hl]
  clear HL hl
  obtain ⟨hd1,rfl,rfl⟩ | ⟨hd1,hd2,rfl,rfl⟩ | ⟨hd1,hd2,rfl,rfl⟩:=hcs
  all_goals
   go_enter Tryz.func42,Tryz.ntmps42
   go_wp2_with fail
   rw [← HW.out]
   refine (first_is H HH.out hm).mono ?_
   rintro e w1 ⟨rfl,hb1⟩
   have hz1:w.heap.size<w1.heap.size:=by have:=hb1.size;omega
   have hp1:plain 5 w1 w.heap.size=true:=by rw [(bcell hb1).2.2.2 _ _ hz];exact hpl
   unfold fV
   go_wp2
  ·refine bodyPost_ret (v:=lkV (z5,8)) (ret_R2 Tryz.results42 _ _ rfl ?c1) rfl ⟨rfl,?c2⟩
   case c1=>exact (row_past _ _ _ (by rw [setRow_size];exact hz1)).trans (row_set _ hp1)
   case c2=>exact (below_setRow (nx hbW hb1) (Nat.le_refl _) _).alloc (by rw [setRow_size];omega) _
  ·refine bodyPost_ret (v:=lkV (z5,13)) (ret_R2 Tryz.results42 _ _ rfl ?c1) rfl ⟨rfl,?c2⟩
   case c1=>exact (row_past _ _ _ (by rw [setRow_size];exact hz1)).trans (row_set _ hp1)
   case c2=>exact (below_setRow (nx hbW hb1) (Nat.le_refl _) _).alloc (by rw [setRow_size];omega) _
  ·refine bodyPost_ret (v:=lkV ((s3,s4,s5,s6,s7),0)) (ret_R2 Tryz.results42 _ _ rfl ?c1) rfl ⟨rfl,?c2⟩
   case c1=>exact (row_past _ _ _ (by rw [setRow_size];exact hz1)).trans (row_set _ hp1)
   case c2=>exact (below_setRow (nx hbW hb1) (Nat.le_refl _) _).alloc (by rw [setRow_size];omega) _
def nxt (l:List Sn) (k:Nat):Int:=if k=0 then 0 else (l.getD (k - 1) z7).1+1
structure RSt (l:List Sn) (k:Nat) (c:Int):Prop where
 ok:rightTo l k=true
 c0:0≤c
 c1:c≤64
 is:c=nxt l k
theorem okS_isB {s:Sn}:okS s=true ↔ 0≤s.1∧s.1<64∧isB s s.1=true:=by simp [okS,isB]
theorem RSt.no {l:List Sn} {k:Nat} {c:Int} (h:RSt l k c) (hk:k<l.length) (hn:∀ x,c≤x→x<64→isB l[k] x=false):right l=false:=by
 refine right_no k hk ?_
 have e:l.getD k z7=l[k]:=by simp [List.getD,hk]
 cases hok:okAt l k
 ·rfl
 ·exfalso
  unfold okAt at hok
  rw [e,Bool.and_eq_true,Bool.or_eq_true,okS_isB] at hok
  obtain ⟨⟨p1,p2,p3⟩,p4⟩:=hok
  have hc:c≤l[k].1:=by
   rw [h.is];unfold nxt
   split
   ·exact p1
   ·rename_i h0
    rcases p4 with q | q
    ·exact absurd (of_decide_eq_true q) h0
    ·have:=of_decide_eq_true q;omega
  rw [hn _ hc p2] at p3;cases p3
theorem RSt.yes {l:List Sn} {k:Nat} {c d:Int} (h:RSt l k c) (hk:k<l.length) (hd:c≤d) (hd2:d<64) (hb:isB l[k] d=true):RSt l (k+1) (d+1):=by
 have e:l.getD k z7=l[k]:=by simp [List.getD,hk]
 have e1:l[k].1=d:=(of_decide_eq_true hb).1
 have c0:=h.c0
 refine ⟨?_,by omega,by omega,?_⟩
 ·rw [rightTo_succ,h.ok,Bool.true_and]
  unfold okAt
  rw [e,Bool.and_eq_true,Bool.or_eq_true,okS_isB]
  refine ⟨⟨by omega,by omega,by rw [e1];exact hb⟩,?_⟩
  have:=h.is
  unfold nxt at this
  split at this
  ·rename_i h0;exact .inl (decide_eq_true h0)
  ·exact .inr (decide_eq_true (by omega))
 ·unfold nxt
  rw [if_neg (by omega),Nat.add_sub_cancel,e,e1]
theorem right_any (B:Bs) (l:List Sn) (v:Value) (w:World) (h:NL B l v w) (hm:l.length≤1000000) :
  Calls Tryz.prog 60 #[v] w fun e w'=>e=.returned (.bool (right l))∧Below w.heap.size w w':=by
 obtain ⟨a,cp,rfl,hel⟩:=h
 obtain ⟨n,hn⟩:∃ n,n=l.length:=⟨_,rfl⟩
 obtain ⟨r,hr⟩:∃ r,right l=r:=⟨_,rfl⟩
 rw [← hn] at hm ⊢
 rw [hr]
 have HN:=lH hn
 have HR:=lH hr
 have HE:=lH hel
 clear hn hr hel
 go_enter Tryz.func60,Tryz.ntmps60
 go_wp2
 go_step3
 go_wp2
 go_step3
 go_wp2
 go_loopg [3,8] n (fun g s3 s8 wr=>∃ (k:Nat) (c:Int),k+g=n∧s8=.int .i64 k∧s3=.int .i64 c∧RSt l k c∧Below w.heap.size w wr)
 case atStart=>exact ⟨0,0,by omega,rfl,rfl,⟨rfl,by omega,by omega,rfl⟩,Below.refl _ _⟩
 case round =>
  obtain ⟨k,c,hkg,rfl,rfl,hst,hb⟩:=hrel
  have HS:=lH hst
  have hc0:=hst.c0
  have hc1:=hst.c1
  clear hst
  cases gk with
  | zero =>
   obtain rfl:k=n:=by omega
   have HZ:Hid (r=true):=lH (by rw [← HR.out];unfold right;rw [← HN.out];exact HS.out.ok)
   go_wp2
   try rw [Exit.noGoto_ret]
   go_ret
   exact ⟨ret_bool HZ.out.symm,hb⟩
  | succ g =>
   have hlt2:(k:Int)<n:=by omega
   have hkl:k<l.length:=by rw [← HN.out];omega
   rcases HE.out with ⟨e,_⟩ | ⟨b,off,rfl,hat⟩
   ·rw [e] at hkl;cases hkl
   ·have hat3:=Lies.keep eS 54 hat (Keeps.of_below hb)
    have hc:=at7 hat3 k hkl
    have hb3:=hat3.1
    obtain ⟨⟨s1,s2,s3,s4,s5,s6,s7⟩,hs⟩:∃ s,l[k]=s:=⟨_,rfl⟩
    rw [hs] at hc
    simp only at hc
    obtain ⟨c0,c1,c2,c3,c4,c5,c6⟩:=hc
    have HK:=lH hs
    clear hat hat3 hs
    go_wp2
    obtain ⟨V,hV⟩:∃ V,V=wr.alloc (.cells #[.int .i64 s1,.int .i64 s2,.int .i64 s3,.int .i64 s4,.int .i64 s5,.int .i64 s6,.int .i64 s7] 54):=⟨_,rfl⟩
    have hbV:Below wr.heap.size wr V:=hV ▸ below1 wr _
    have hz:wr.heap.size<V.heap.size:=by rw [hV];simp
    have hrow:row V wr.heap.size=#[.int .i64 s1,.int .i64 s2,.int .i64 s3,.int .i64 s4,.int .i64 s5,.int .i64 s6,.int .i64 s7]:=by rw [hV];simp [go_sem]
    rw [← hV]
    have hbw:=nx hb hbV
    obtain ⟨q,hq⟩:∃ q,wr.heap.size=q:=⟨_,rfl⟩
    rw [hq] at hz hrow
    rw [hq]
    have HV:=lH hrow
    clear hV hrow hq hbV hb c0 c1 c2 c3 c4 c5 c6
    go_loopg [3] (64 - c).toNat (fun g2 s3' wx=>∃ d:Int,d+g2=64∧c≤d∧s3'=.int .i64 d∧(∀ x,c≤x→x<d→isB (s1,s2,s3,s4,s5,s6,s7) x=false)∧Below V.heap.size V wx)
    case atStart=>exact ⟨c,by omega,by omega,rfl,fun x h1 h2=>by omega,Below.refl _ _⟩
    case round =>
     obtain ⟨d,hdg,hcd,rfl,hno,hbx⟩:=hrel
     have HO:=lH hno
     clear hno
     cases gk with
     | zero =>
      have hdd:¬ (d<64):=by omega
      have HZ:Hid (r=false):=lH (by rw [← HR.out];exact HS.out.no hkl (by rw [HK.out];intro x h1 h2;exact HO.out x h1 (by omega)))
      go_wp2
      try rw [Exit.noGoto_ret]
      go_ret
      exact ⟨ret_bool HZ.out.symm,nx hbw hbx⟩
     | succ g2 =>
      have hdd:d<64:=by omega
      have hrx:row wr q=#[.int .i64 s1,.int .i64 s2,.int .i64 s3,.int .i64 s4,.int .i64 s5,.int .i64 s6,.int .i64 s7]:=by rw [(bcell hbx).2.2.1 _ hz];exact HV.out
      obtain ⟨t,ht⟩:∃ t,isB (s1,s2,s3,s4,s5,s6,s7) d=t:=⟨_,rfl⟩
      have HT:=lH ht
      clear ht
      cases t
      ·go_wp2_with fail
       refine (isOf_is HT _).mono ?_
       rintro e w1 ⟨rfl,hb1⟩
       go_wp2
       go_roundg g2
       case measure=>omega
       case rel=>exact ⟨d+1,by omega,by omega,by go_num,fun x h1 h2=>by
        by_cases e:x=d
        ·rw [e];exact HT.out
        ·exact HO.out x h1 (by omega),nx hbx hb1⟩
      ·have HY:=lH (HS.out.yes hkl hcd hdd (by rw [HK.out];exact HT.out))
       go_wp2_with fail
       refine (isOf_is HT _).mono ?_
       rintro e w1 ⟨rfl,hb1⟩
       go_wp2
       go_roundg g
       case measure=>omega
       case rel=>exact ⟨k+1,d+1,by omega,by go_num,by go_num,HY.out,nx hbw (nx hbx hb1)⟩
end Go.Proofs.YtjhocpcpkemcaaaGreat.Se
namespace Go.Proofs.YtjhocpcpkemcaaaGreat.Se
open Go.RowKit
open Rw
open Da
open Ro
def Post (F:Value→World→Prop) (w:World) (e:Ending) (w':World):Prop:=∃ v,e=.returned v∧Below w.heap.size w w'∧F v w'
def NC (B:Bs) (l:List Sn) (v:Value) (w:World):Prop:=NL B l v w∧capOk v
theorem NC.stays {B:Bs} {l:List Sn} {v:Value} {w w':World} (h:NC B l v w) (hb:Below w.heap.size w w'):NC B l v w':=⟨Is.stays eS 54 h.1 hb,h.2⟩
abbrev OwnN (B:Bs) (Bo:Nat) (l:List Sn) (v:Value) (w:World):Prop:=Own eS 54 B Bo l v w
def fS:Flat Sn:=⟨7,cellsS,fun _=>rfl,fun o u hu=>by simp [cellsS] at hu;rcases hu with rfl | rfl | rfl | rfl | rfl | rfl | rfl<;>rfl⟩
theorem elemFS:Elem Tryz.prog 26 54 fS.k 56:=elemS
theorem zero7 (w:World):(zeroValue 54).run Tryz.prog w=.ok (.agg #[.int .i64 0,.int .i64 0,.int .i64 0,.int .i64 0,.int .i64 0,.int .i64 0,.int .i64 0]) w:=by kernel_rfl
theorem own_room {B:Bs} {Bo g c:Nat} {hs:List Sn} {w:World} (h:Row fS 54 g c hs w) (hB:Bo≤g) (hc:c≤maxLen):OwnN B Bo [] (.slice (some ⟨g,0,none⟩) 0 c) w:=by
 have:=(h.take 0).owns hB hc
 rw [List.take_zero] at this
 exact ⟨[],rfl,by simp,this⟩
theorem grow_any (B:Bs) (n:Nat) (hn:n≤4000000) (w:World):Calls Tryz.prog 130 #[.slice none 0 0,.int .i64 n] w (Post (OwnN B w.heap.size []) w):=by
 by_cases h0:n=0
 ·subst h0
  go_enter Tryz.func130,Tryz.ntmps130
  go_wp2
  go_ret
  exact ⟨_,rfl,Below.refl _ _,Own.nil _ _ _⟩
 ·have h1:(0:Int)<n:=by omega
  obtain ⟨c2,w2,hrun,hr2,hb2,hc2⟩:=growz_nil (e:=fS) (u:=3) (ik:=.i64) elemFS Tryz.underlying3 26 zero7 (x0:=(z7:Sn)) rfl (w:=w) (m:=n) (by omega) (by omega) (by decide)
  have HO:=lH (own_room (B:=B) hr2 (Nat.le_refl _) hc2)
  have k2:(0:Int)≤c2:=by omega
  clear hr2 hc2 h0
  go_enter Tryz.func130,Tryz.ntmps130
  go_wp2
  go_ret
  exact ⟨_,rfl,hb2,HO.out⟩
theorem concat_any (B:Bs) (l m q:List Sn) (x y z:Value) (p:Nat) (w:World) (hx:NL B l x w) (hy:NL B m y w) (hz:NL B q z w) (hp:p<w.heap.size) (c0:w.cell? ⟨p,0,none⟩=some x) (c1:w.cell? ⟨p,1,none⟩=some y) (c2:w.cell? ⟨p,2,none⟩=some z) (hB:B.le w.heap.size) (h1:l.length≤1000000) (h2:m.length≤1000000) (h3:q.length≤1000000) :
  Calls Tryz.prog 90 #[.slice (some ⟨p,0,none⟩) 3 3] w (Post (NC B (l++(m++q))) w):=by
 obtain ⟨a1,k1,rfl⟩:=hx.len
 obtain ⟨a2,k2,rfl⟩:=hy.len
 obtain ⟨a3,k3,rfl⟩:=hz.len
 obtain ⟨n1,hn1⟩:∃ n,l.length=n:=⟨_,rfl⟩
 obtain ⟨n2,hn2⟩:∃ n,m.length=n:=⟨_,rfl⟩
 obtain ⟨n3,hn3⟩:∃ n,q.length=n:=⟨_,rfl⟩
 rw [hn1] at hx c0 h1
 rw [hn2] at hy c1 h2
 rw [hn3] at hz c2 h3
 have HX:=lH hx
 have HY:=lH hy
 have HZ:=lH hz
 have HB:=lH hB
 have HN1:=lH hn1
 have HN2:=lH hn2
 have HN3:=lH hn3
 clear hx hy hz hn1 hn2 hn3
 go_enter Tryz.func90,Tryz.ntmps90
 go_wp2
 go_loopw [3,11] (fun s i wr=>w=wr∧((i=.int .i64 0∧s=.int .i64 0)∨(i=.int .i64 1∧s=.int .i64 (n1:Nat))∨(i=.int .i64 2∧s=.int .i64 ((n1+n2:Nat):Int))∨(i=.int .i64 3∧s=.int .i64 ((n1+n2+n3:Nat):Int)))) (fun _ i _=>3 - (intOf i).toNat)
 case atStart=>exact ⟨rfl,.inl ⟨rfl,rfl⟩⟩
 case round =>
  obtain ⟨rfl,⟨rfl,rfl⟩ | ⟨rfl,rfl⟩ | ⟨rfl,rfl⟩ | ⟨rfl,rfl⟩⟩:=hrel
  ·go_wp2
   go_roundw
   case rel=>exact ⟨trivial,.inr (.inl ⟨rfl,by go_num⟩)⟩
   case measure=>simp [intOf]
  ·go_wp2
   go_roundw
   case rel=>exact ⟨trivial,.inr (.inr (.inl ⟨rfl,by push_cast;go_num⟩))⟩
   case measure=>simp [intOf]
  ·go_wp2
   go_roundw
   case rel=>exact ⟨trivial,.inr (.inr (.inr ⟨rfl,by push_cast;go_num⟩))⟩
   case measure=>simp [intOf]
  ·go_wp2_with fail
   refine (grow_any B (n1+n2+n3) (by omega) _).mono ?_
   rintro e w1 ⟨v1,rfl,hb1,ho1⟩
   have HO1:=lH ho1
   obtain ⟨a9,c9,rfl⟩:=(HO1.out.is (by decide) HB.out).len
   clear ho1
   go_wp2
   go_loopw [6,27] (fun t i wr=>∃ zs,OwnN B w.heap.size zs t wr∧Below w.heap.size w wr∧((i=.int .i64 0∧[]=zs)∨(i=.int .i64 1∧l=zs)∨(i=.int .i64 2∧l++m=zs)∨(i=.int .i64 3∧l++m++q=zs))) (fun _ i _=>3 - (intOf i).toNat)
   case atStart=>exact ⟨[],HO1.out,hb1,.inl ⟨rfl,rfl⟩⟩
   case round =>
    obtain ⟨zs,ho9,hb,hcs⟩:=hrel
    obtain ⟨a8,c8,rfl⟩:=(ho9.is (by decide) HB.out).len
    obtain ⟨nz,hnz⟩:∃ n,n=zs.length:=⟨_,rfl⟩
    rw [← hnz] at ho9 ⊢
    have HO9:=lH ho9
    have HNz:=lH hnz
    clear ho9 hnz
    have hpw:p<wr.heap.size:=Nat.lt_of_lt_of_le hp hb.size
    obtain ⟨rfl,rfl⟩ | ⟨rfl,rfl⟩ | ⟨rfl,rfl⟩ | ⟨rfl,rfl⟩:=hcs
    ·obtain ⟨v',w',hrun,hown',_,hbl,_⟩:=Own.append elemS 26 typesS HB.out hb.size HO9.out (Is.stays eS 54 HX.out hb) (by simp only [List.length_nil,HN1.out];omega) (by omega)
     have HR:=lH (show OwnN B w.heap.size ([]++l) v' w'∧Below w.heap.size w w' from ⟨hown',hbl _ _ (Nat.le_refl _) hb⟩)
     obtain ⟨a7,c7,rfl⟩:=(hown'.is (by decide) HB.out).len
     have d0:=(hb.cell (p:=⟨p,0,none⟩) hp).trans c0
     clear hown' hbl
     go_wp2
     go_roundw
     case rel=>exact ⟨_,HR.out.1,HR.out.2,.inr (.inl ⟨rfl,rfl⟩)⟩
     case measure=>simp [intOf]
    ·obtain ⟨v',w',hrun,hown',_,hbl,_⟩:=Own.append elemS 26 typesS HB.out hb.size HO9.out (Is.stays eS 54 HY.out hb) (by rw [HN1.out,HN2.out];omega) (by omega)
     have HR:=lH (show OwnN B w.heap.size (l++m) v' w'∧Below w.heap.size w w' from ⟨hown',hbl _ _ (Nat.le_refl _) hb⟩)
     obtain ⟨a7,c7,rfl⟩:=(hown'.is (by decide) HB.out).len
     have d0:=(hb.cell (p:=⟨p,1,none⟩) hp).trans c1
     clear hown' hbl
     go_wp2
     go_roundw
     case rel=>exact ⟨l++m,by rw [← List.length_append];exact HR.out.1,HR.out.2,.inr (.inr (.inl ⟨rfl,rfl⟩))⟩
     case measure=>simp [intOf]
    ·obtain ⟨v',w',hrun,hown',_,hbl,_⟩:=Own.append elemS 26 typesS HB.out hb.size HO9.out (Is.stays eS 54 HZ.out hb) (by simp only [List.length_append,HN1.out,HN2.out,HN3.out];omega) (by omega)
     have HR:=lH (show OwnN B w.heap.size (l++m++q) v' w'∧Below w.heap.size w w' from ⟨hown',hbl _ _ (Nat.le_refl _) hb⟩)
     obtain ⟨a7,c7,rfl⟩:=(hown'.is (by decide) HB.out).len
     have d0:=(hb.cell (p:=⟨p,2,none⟩) hp).trans c2
     clear hown' hbl
     go_wp2
     go_roundw
     case rel=>exact ⟨l++m++q,by rw [show l.length+(m.length+q.length)=(l++m++q).length by simp];exact HR.out.1,HR.out.2,.inr (.inr (.inr ⟨rfl,rfl⟩))⟩
     case measure=>simp [intOf]
    ·have HF:=lH (show NC B (l++(m++q)) (.slice a8 nz c8) wr from by rw [← List.append_assoc];exact ⟨HO9.out.is (by decide) HB.out,HO9.out.cap⟩)
     go_wp2
     go_ret
     exact ⟨_,rfl,hb,HF.out⟩
end Go.Proofs.YtjhocpcpkemcaaaGreat.Se
namespace Go.Proofs.YtjhocpcpkemcaaaGreat.Se
open Go.RowKit
open Rw
open Da
theorem right_one (s:Sn):right [s]=okS s:=by
 cases h:okS s
 ·cases k:right [s]
  ·rfl
  ·have:=(right_iff.1 k).1 s List.mem_cons_self;rw [h] at this;cases this
 ·exact right_iff.2 ⟨by simp [h],by simp⟩
theorem right_is {q:Bool} {l:List Sn} (H:Hid (right l=q)) {B:Bs} {v:Value} {w:World} (h:NL B l v w) (hm:l.length≤1000000) :
  Calls Tryz.prog 60 #[v] w fun e w'=>e=.returned (.bool q)∧Below w.heap.size w w':=by
 rw [← H.out];exact right_any B l v w h hm
theorem last_is {q:Int} {c:Int} {l:List Sn} (H:Hid (last c l=q)) {B:Bs} {v:Value} {w:World} (h:NL B l v w) (hm:l.length≤1000000) :
  Calls Tryz.prog 25 #[v,.int .i64 c] w fun e w'=>e=.returned (.int .i64 q)∧Below w.heap.size w w':=by
 rw [← H.out];exact last_any B l v c w h hm
section
variable (ρ:Operand→Value) (dst:Option Tmp) (ty:TypeId) (pos:String) (after:Array Edge) (guard:Option (Nat × Bool)) (w:World)
theorem hiS (x y:Operand) (h:hiOk (ρ x) (ρ y)=true):(execOp ρ { dst,op:=.slice 26 x none (some y) none,type:=ty,pos,after,guard }).run Tryz.prog w=.ok (.value (cutHi 7 (natOf (ρ y)) (ρ x))) w :=
 exec_hi ρ dst ty pos after guard w elemS x y h
theorem loS (x y:Operand) (h:loOk (ρ x) (ρ y)=true):(execOp ρ { dst,op:=.slice 26 x (some y) none none,type:=ty,pos,after,guard }).run Tryz.prog w=.ok (.value (cutLo 7 (natOf (ρ y)) (ρ x))) w :=
 exec_lo ρ dst ty pos after guard w elemS x y h
end
attribute [local go_sem ↓] hiS loS
def PostN (B:Bs) (l:List Sn) (r:Rp) (w:World) (e:Ending) (w':World):Prop:=∃ v,e=.returned (.tuple #[v,.int .i64 (noteE l r)])∧Below w.heap.size w w'∧NC B (noteL l r) v w'
theorem PostN.same {B:Bs} {l:List Sn} {r:Rp} {w w':World} {v:Value} {k:Int} (he:noteE l r=k) (hk:k≠0) (hb:Below w.heap.size w w') (h:NC B l v w'):PostN B l r w (.returned (.tuple #[v,.int .i64 k])) w' :=
 ⟨v,by rw [he],hb,by unfold noteL;rw [he,if_neg hk];exact h⟩
theorem note_any (B:Bs) (l:List Sn) (v:Value) (r1 r2 r3 r4 r5:Int) (w:World) (h:NC B l v w) (hB:B.le w.heap.size) (hm:l.length≤100000) :
  Calls Tryz.prog 45 #[v,.agg #[.int .i64 r1,.int .i64 r2,.int .i64 r3,.int .i64 r4,.int .i64 r5]] w (PostN B l (r1,r2,r3,r4,r5) w):=by
 have hm6:l.length≤1000000:=by omega
 obtain ⟨rr,hrr⟩:∃ q,right l=q:=⟨_,rfl⟩
 obtain ⟨mm,hmm⟩:∃ q,okS (mk (r1,r2,r3,r4,r5))=q:=⟨_,rfl⟩
 obtain ⟨la,hla⟩:∃ q,last r1 l=q:=⟨_,rfl⟩
 have HR:=lH hrr
 have HM:=lH (show right [mk (r1,r2,r3,r4,r5)]=mm by rw [right_one,hmm])
 have HL:=lH hla
 have hE:noteE l (r1,r2,r3,r4,r5)=if (rr&&mm)=true then (if r2≤la then 13 else 0) else 1:=by unfold noteE;rw [hrr,hmm,← hla]
 have HH:=lH (show ∀ u,Below w.heap.size w u→NC B l v u∧B.le u.heap.size from fun u hu=>⟨NC.stays h hu,hB.mono hu.size⟩)
 obtain ⟨V,hV⟩:∃ V,V=(w.alloc (.cells #[.int .i64 r1,.int .i64 r2,.int .i64 r3,.int .i64 r4,.int .i64 r5] 37)).alloc (.cells #[.int .i64 r1,.int .i64 r2,.int .i64 r1,.int .i64 r2,.int .i64 r3,.int .i64 r4,.int .i64 r5] 54):=⟨_,rfl⟩
 have hbV:Below w.heap.size w V:=hV ▸ below2 w _ _
 have hz:w.heap.size+1<V.heap.size:=by rw [hV];simp
 have hrow:row V (w.heap.size+1)=#[.int .i64 r1,.int .i64 r2,.int .i64 r1,.int .i64 r2,.int .i64 r3,.int .i64 r4,.int .i64 r5]:=by rw [hV];simp [go_sem]
 have HK:=lH (show ∀ u,Below V.heap.size V u→row u (w.heap.size+1)=#[.int .i64 r1,.int .i64 r2,.int .i64 r1,.int .i64 r2,.int .i64 r3,.int .i64 r4,.int .i64 r5]∧u.cell? ⟨w.heap.size+1,0,none⟩=some (.int .i64 r1)∧u.cell? ⟨w.heap.size+1,1,none⟩=some (.int .i64 r2) from by
  intro u hu
  have hr:row u (w.heap.size+1)=row V (w.heap.size+1):=(bcell hu).2.2.1 _ hz
  have hs:(row u (w.heap.size+1)).size=6+1:=by rw [hr,hrow];rfl
  exact ⟨by rw [hr,hrow],by rw [cell_row _ _ _ hs,hr,hrow];rfl,by rw [cell_row _ _ _ hs,hr,hrow];rfl⟩)
 have HV:=lH hV
 obtain ⟨a1,c1,rfl,hcp⟩:=capOk_len h.1 h.2
 obtain ⟨n,hn⟩:∃ n,n=l.length:=⟨_,rfl⟩
 rw [← hn] at HH hcp ⊢
 have HN:=lH hn
 clear h hB hrr hla hV hrow hn
 cases rr
 ·have HE:=lH (show noteE l (r1,r2,r3,r4,r5)=1 by rw [hE];rfl)
  clear hE hmm
  go_enter Tryz.func45,Tryz.ntmps45
  go_wp2_with fail
  rw [← HV.out]
  refine (right_is HR (HH.out V hbV).1.1 hm6).mono ?_
  rintro e w1 ⟨rfl,hb1⟩
  go_wp2
  go_ret2
  exact PostN.same HE.out (by decide) (nx hbV hb1) (HH.out _ (nx hbV hb1)).1
 cases mm
 ·have HE:=lH (show noteE l (r1,r2,r3,r4,r5)=1 by rw [hE];rfl)
  clear hE hmm
  go_enter Tryz.func45,Tryz.ntmps45
  go_wp2_with fail
  rw [← HV.out]
  refine (right_is HR (HH.out V hbV).1.1 hm6).mono ?_
  rintro e w1 ⟨rfl,hb1⟩
  obtain ⟨k1,k2,k3⟩:=HK.out w1 hb1
  go_wp2_with fail
  refine (right_is HM (Is.one (T:=54) (HH.out w1 (nx hbV hb1)).2 (x:=mk (r1,r2,r3,r4,r5)) (e:=eS) rfl) (by simp)).mono ?_
  rintro e w2 ⟨rfl,hb2⟩
  have hb3:=nx hbV (nx hb1 (nx (below1 _ _) hb2))
  clear k1 k2 k3
  go_wp2
  go_ret2
  exact PostN.same HE.out (by decide) hb3 (HH.out _ hb3).1
 have hE2:noteE l (r1,r2,r3,r4,r5)=if r2≤la then 13 else 0:=hE
 clear hE
 by_cases hle:r2≤la
 ·have hd:decide (r2≤la)=true:=decide_eq_true hle
  have HE:=lH (show noteE l (r1,r2,r3,r4,r5)=13 by rw [hE2,if_pos hle])
  clear hE2 hmm
  go_enter Tryz.func45,Tryz.ntmps45
  go_wp2_with fail
  rw [← HV.out]
  refine (right_is HR (HH.out V hbV).1.1 hm6).mono ?_
  rintro e w1 ⟨rfl,hb1⟩
  obtain ⟨k1,k2,k3⟩:=HK.out w1 hb1
  go_wp2_with fail
  refine (right_is HM (Is.one (T:=54) (HH.out w1 (nx hbV hb1)).2 (x:=mk (r1,r2,r3,r4,r5)) (e:=eS) rfl) (by simp)).mono ?_
  rintro e w2 ⟨rfl,hb2⟩
  have hb3:=nx hb1 (nx (below1 _ _) hb2)
  clear k1 k2 k3
  have hK:=fun u (hu:Below w2.heap.size w2 u)=>HK.out u (nx hb3 hu)
  go_wp2
  refine Rg.region (by kernel_rfl) (by kernel_rfl) (by kernel_rfl) (fun _ _ d _ _ h=>by cases d<;>exact h) _ rfl ?_
  repeat (first | (refine Rg.Seq.skip (by rfl) ?_;simp only [Act.put,sA,sB,sC]) | (refine Rg.Seq.pure (v:=?_) (by rfl) ?_ ?_;rotate_left;(intro w_ hS_;have hk_:=hK w_ hS_;go_simp<;>with_reducible rfl);simp only [Act.put,sA,sB,sC]) | (refine Rg.Seq.call (v:=?_) (f:=?_) (args:=?_) (by rfl) ?_ ?_ ?_;rotate_left 3;(intro w_ hS_;have hk_:=hK w_ hS_;go_simp<;>first | with_reducible rfl | (constructor<;>with_reducible rfl));(intro w_ hS_;first | (go_at_call 25;refine (last_is HL (HH.out w_ (nx hbV (nx hb3 hS_))).1.1 hm6).mono ?_;rintro e w_ ⟨rfl,hb_⟩;refine ⟨?_,nx hS_ hb_⟩;with_reducible rfl));simp only [Act.put,sA,sB,sC]))
  intro w3 hb4
  have hb5:=nx hbV (nx hb3 hb4)
  go_wp2
  go_ret2
  exact PostN.same HE.out (by decide) hb5 (HH.out _ hb5).1
 ·have hd:decide (r2≤la)=false:=decide_eq_false hle
  have HRt:Hid (Right l):=lH (right_iff.1 HR.out)
  obtain ⟨cn,hcn⟩:∃ q,cntS r1 l=q:=⟨_,rfl⟩
  obtain ⟨ff,hff⟩:∃ q,atS r1 l=q:=⟨_,rfl⟩
  obtain ⟨nn,hnn⟩:∃ q,q=cn+if ff=true then 1 else 0:=⟨_,rfl⟩
  have hcl:cn≤n:=by rw [← hcn,HN.out];exact cntS_le _ _
  have hnl:nn≤n:=by
   cases ff
   ·simp at hnn;omega
   ·have:cn<l.length:=by
     rw [← hcn]
     unfold atS at hff
     split at hff
     ·rename_i x hx;exact (List.getElem?_eq_some_iff.1 hx).1
     ·cases hff
    simp at hnn;rw [HN.out];omega
  have HE:=lH (show noteE l (r1,r2,r3,r4,r5)=0∧noteL l (r1,r2,r3,r4,r5)=l.take cn++([mk (r1,r2,r3,r4,r5)]++l.drop nn) from by
   have h0:noteE l (r1,r2,r3,r4,r5)=0:=by rw [hE2,if_neg hle]
   refine ⟨h0,?_⟩
   unfold noteL
   rw [if_pos h0,put_search _ HRt.out]
   show l.take (cntS r1 l)++([mk (r1,r2,r3,r4,r5)]++l.drop (cntS r1 l+if atS r1 l=true then 1 else 0))=_
   rw [hcn,hff,← hnn])
  have HS:=lH (show cntS r1 l=cn∧atS r1 l=ff from ⟨hcn,hff⟩)
  have hH0:=(HH.out w (Below.refl _ _)).1
  have hi1:=hH0.1.cutHi (k:=cn) (by rw [← HN.out];exact hcl)
  have lo1:=hH0.1.cutLo hH0.2 (k:=nn) (by rw [← HN.out];exact hnl)
  obtain ⟨a2,c2,q2⟩:=hi1.len
  obtain ⟨a3,c3,q3⟩:=lo1.len
  rw [List.length_take,Nat.min_eq_left (by rw [← HN.out];exact hcl)] at q2
  rw [List.length_drop,← HN.out] at q3
  have HI:=lH (show ∀ u,Below w.heap.size w u→NL B (l.take cn) (.slice a2 cn c2) u∧NL B (l.drop nn) (.slice a3 (n - nn) c3) u from fun u hu=>⟨Is.stays eS 54 (q2 ▸ hi1) hu,Is.stays eS 54 (q3 ▸ lo1) hu⟩)
  have q2:cutHi 7 cn (.slice a1 n c1)=.slice a2 cn c2:=q2
  have q3:cutLo 7 nn (.slice a1 n c1)=.slice a3 (n - nn) c3:=q3
  have hcc:cn≤c1:=by omega
  clear hE2 hmm hcn hff hi1 lo1 hH0
  go_enter Tryz.func45,Tryz.ntmps45
  go_wp2_with fail
  rw [← HV.out]
  refine (right_is HR (HH.out V hbV).1.1 hm6).mono ?_
  rintro e w1 ⟨rfl,hb1⟩
  obtain ⟨k1,k2,k3⟩:=HK.out w1 hb1
  go_wp2_with fail
  refine (right_is HM (Is.one (T:=54) (HH.out w1 (nx hbV hb1)).2 (x:=mk (r1,r2,r3,r4,r5)) (e:=eS) rfl) (by simp)).mono ?_
  rintro e w2 ⟨rfl,hb2⟩
  have hb3:=nx hb1 (nx (below1 _ _) hb2)
  clear k1 k2 k3
  have hK:=fun u (hu:Below w2.heap.size w2 u)=>HK.out u (nx hb3 hu)
  go_wp2
  refine Rg.region (by kernel_rfl) (by kernel_rfl) (by kernel_rfl) (fun _ _ d _ _ h=>by cases d<;>exact h) _ rfl ?_
  repeat (first | (refine Rg.Seq.skip (by rfl) ?_;simp only [Act.put,sA,sB,sC]) | (refine Rg.Seq.pure (v:=?_) (by rfl) ?_ ?_;rotate_left;(intro w_ hS_;have hk_:=hK w_ hS_;go_simp<;>with_reducible rfl);simp only [Act.put,sA,sB,sC]) | (refine Rg.Seq.call (v:=?_) (f:=?_) (args:=?_) (by rfl) ?_ ?_ ?_;rotate_left 3;(intro w_ hS_;have hk_:=hK w_ hS_;go_simp<;>first | with_reducible rfl | (constructor<;>with_reducible rfl));(intro w_ hS_;first | (go_at_call 25;refine (last_is HL (HH.out w_ (nx hbV (nx hb3 hS_))).1.1 hm6).mono ?_;rintro e w_ ⟨rfl,hb_⟩;refine ⟨?_,nx hS_ hb_⟩;with_reducible rfl));simp only [Act.put,sA,sB,sC]))
  intro w3 hb4
  have hb5:=nx hb3 hb4
  obtain ⟨k1,k2,k3⟩:=HK.out w3 hb5
  go_wp2_with fail
  refine (search_any B l _ r1 r2 r1 r2 r3 r4 r5 w3 (HN.out ▸ (HH.out w3 (nx hbV hb5)).1.1) hm6 HRt.out).mono ?_
  rintro e w4 ⟨rfl,hb6⟩
  rw [HS.out.1,HS.out.2]
  have hb7:=nx hb5 hb6
  clear k1 k2 k3 hb1 hb2 hb3 hb4 hb5 hb6 hK
  have hK:=fun u (hu:Below w4.heap.size w4 u)=>HK.out u (nx hb7 hu)
  cases ff
  ·have e1:nn=cn:=by simpa using hnn
   clear hnn
   subst e1
   go_wp2
   refine Rf.rg [0,1,2,3,5,6,7,4,8,9,10,11] ?_
   repeat (first | (refine Rf.Steps.sk ?_;simp only [Act.put,sA,sB,sC]) | (refine Rf.Steps.pu (v:=?_) ?_ ?_;rotate_left;(intro w_ hS_;have hk_:=hK w_ hS_;go_simp<;>with_reducible rfl);simp only [Act.put,sA,sB,sC]))
   refine Rf.Steps.forced (i:=4) (by kernel_rfl) ?_
   refine Rf.One.val (fun v u=>∃ b,v=.slice (some ⟨b,0,none⟩) 1 1∧NL B [mk (r1,r2,r3,r4,r5)] v u) (fun v _ _ h k=>h.imp fun b h=>⟨h.1,Is.stays eS 54 h.2 k⟩) (by rfl) (by rfl) ?_ ?_
   ·intro w_ hS_
    refine ⟨_,_,?_,below1 w_ (.cells #[.int .i64 r1,.int .i64 r2,.int .i64 r1,.int .i64 r2,.int .i64 r3,.int .i64 r4,.int .i64 r5] 54),⟨_,rfl,Is.one (T:=54) (HH.out w_ (nx hbV (nx hb7 hS_))).2 (x:=mk (r1,r2,r3,r4,r5)) (e:=eS) rfl⟩⟩
    go_simp
   intro v1 u1 hv1
   obtain ⟨b1,rfl,_⟩:=hv1
   simp only [Act.put,sA,sB,sC]
   refine Rf.Steps.forced (i:=8) (by kernel_rfl) ?_
   refine Rf.One.val (fun v u=>∃ b,v=.slice (some ⟨b,0,none⟩) 3 3∧b<u.heap.size∧u.cell? ⟨b,0,none⟩=some (.slice a2 nn c2)∧u.cell? ⟨b,1,none⟩=some (.slice (some ⟨b1,0,none⟩) 1 1)∧u.cell? ⟨b,2,none⟩=some (.slice a3 (n - nn) c3))
    (fun v _ _ h k=>h.imp fun b h=>⟨h.1,Nat.lt_of_lt_of_le h.2.1 k.size,(k.cell (p:=⟨b,0,none⟩) h.2.1).trans h.2.2.1,(k.cell (p:=⟨b,1,none⟩) h.2.1).trans h.2.2.2.1,(k.cell (p:=⟨b,2,none⟩) h.2.1).trans h.2.2.2.2⟩) (by rfl) (by rfl) ?_ ?_
   ·intro w_ hS_
    refine ⟨_,_,?_,below1 w_ (.cells #[.slice a2 nn c2,.slice (some ⟨b1,0,none⟩) 1 1,.slice a3 (n - nn) c3] 26),⟨w_.heap.size,rfl,by simp,by simp [go_sem],by simp [go_sem],by simp [go_sem]⟩⟩
    go_simp
   intro v2 u2 hv2
   obtain ⟨b2,rfl,_⟩:=hv2
   simp only [Act.put,sA,sB,sC]
   refine Rf.Steps.forced (i:=9) (by kernel_rfl) ?_
   refine Rf.One.call (NC B (l.take nn++([mk (r1,r2,r3,r4,r5)]++l.drop nn))) (fun v _ _ h k=>NC.stays h k) (f:=?_) (args:=?_) (by rfl) (by rfl) ?_ ?_ ?_
   rotate_left 2
   ·intro w_ hS_
    go_simp<;>first | with_reducible rfl | (constructor<;>with_reducible rfl)
   ·intro w_ hS_
    obtain ⟨⟨hS1,_,_,hS2⟩,_,hS4,hS3,hS5,hS6,hS7⟩:=hS_
    cases hS4
    have hu:=nx hbV (nx hb7 hS1)
    exact concat_any B _ _ _ _ _ _ b2 w_ (HI.out w_ hu).1 hS2 (HI.out w_ hu).2 hS3 hS5 hS6 hS7 (HH.out w_ hu).2 (by rw [List.length_take];omega) (by simp) (by rw [List.length_drop];omega)
   intro v3 u3 hv3
   simp only [Act.put,sA,sB,sC]
   repeat (first | (refine Rf.Steps.sk ?_;simp only [Act.put,sA,sB,sC]) | (refine Rf.Steps.pu (v:=?_) ?_ ?_;rotate_left;(intro w_ hS_;skip;go_simp<;>with_reducible rfl);simp only [Act.put,sA,sB,sC]))
   refine Rf.Steps.nil (by kernel_rfl) ?_
   intro w9 hS9
   have HF:=lH (show Below w.heap.size w w9∧NC B (noteL l (r1,r2,r3,r4,r5)) v3 w9 from ⟨nx hbV (nx hb7 hS9.1.1.1),by rw [HE.out.2];exact hS9.2⟩)
   clear hS9 hv3
   go_wp2
   go_ret2
   exact ⟨v3,by (rw [HE.out.1])<;>rfl,HF.out.1,HF.out.2⟩
  ·have e1:(cn:Int)+1=nn:=by simp at hnn;omega
   have e2:wrap64 (nn:Int)=nn:=IntWalk.wrap64_in _ (by have:=HN.out;omega)
   clear hnn
   go_wp2
   refine Rf.rg [0,1,2,3,5,6,7,4,8,9,10,11] ?_
   repeat (first | (refine Rf.Steps.sk ?_;simp only [Act.put,sA,sB,sC]) | (refine Rf.Steps.pu (v:=?_) ?_ ?_;rotate_left;(intro w_ hS_;have hk_:=hK w_ hS_;go_simp<;>with_reducible rfl);simp only [Act.put,sA,sB,sC]))
   refine Rf.Steps.forced (i:=4) (by kernel_rfl) ?_
   refine Rf.One.val (fun v u=>∃ b,v=.slice (some ⟨b,0,none⟩) 1 1∧NL B [mk (r1,r2,r3,r4,r5)] v u) (fun v _ _ h k=>h.imp fun b h=>⟨h.1,Is.stays eS 54 h.2 k⟩) (by rfl) (by rfl) ?_ ?_
   ·intro w_ hS_
    refine ⟨_,_,?_,below1 w_ (.cells #[.int .i64 r1,.int .i64 r2,.int .i64 r1,.int .i64 r2,.int .i64 r3,.int .i64 r4,.int .i64 r5] 54),⟨_,rfl,Is.one (T:=54) (HH.out w_ (nx hbV (nx hb7 hS_))).2 (x:=mk (r1,r2,r3,r4,r5)) (e:=eS) rfl⟩⟩
    go_simp
   intro v1 u1 hv1
   obtain ⟨b1,rfl,_⟩:=hv1
   simp only [Act.put,sA,sB,sC]
   refine Rf.Steps.forced (i:=8) (by kernel_rfl) ?_
   refine Rf.One.val (fun v u=>∃ b,v=.slice (some ⟨b,0,none⟩) 3 3∧b<u.heap.size∧u.cell? ⟨b,0,none⟩=some (.slice a2 cn c2)∧u.cell? ⟨b,1,none⟩=some (.slice (some ⟨b1,0,none⟩) 1 1)∧u.cell? ⟨b,2,none⟩=some (.slice a3 (n - nn) c3))
    (fun v _ _ h k=>h.imp fun b h=>⟨h.1,Nat.lt_of_lt_of_le h.2.1 k.size,(k.cell (p:=⟨b,0,none⟩) h.2.1).trans h.2.2.1,(k.cell (p:=⟨b,1,none⟩) h.2.1).trans h.2.2.2.1,(k.cell (p:=⟨b,2,none⟩) h.2.1).trans h.2.2.2.2⟩) (by rfl) (by rfl) ?_ ?_
   ·intro w_ hS_
    refine ⟨_,_,?_,below1 w_ (.cells #[.slice a2 cn c2,.slice (some ⟨b1,0,none⟩) 1 1,.slice a3 (n - nn) c3] 26),⟨w_.heap.size,rfl,by simp,by simp [go_sem],by simp [go_sem],by simp [go_sem]⟩⟩
    go_simp
   intro v2 u2 hv2
   obtain ⟨b2,rfl,_⟩:=hv2
   simp only [Act.put,sA,sB,sC]
   refine Rf.Steps.forced (i:=9) (by kernel_rfl) ?_
   refine Rf.One.call (NC B (l.take cn++([mk (r1,r2,r3,r4,r5)]++l.drop nn))) (fun v _ _ h k=>NC.stays h k) (f:=?_) (args:=?_) (by rfl) (by rfl) ?_ ?_ ?_
   rotate_left 2
   ·intro w_ hS_
    go_simp<;>first | with_reducible rfl | (constructor<;>with_reducible rfl)
   ·intro w_ hS_
    obtain ⟨⟨hS1,_,_,hS2⟩,_,hS4,hS3,hS5,hS6,hS7⟩:=hS_
    cases hS4
    have hu:=nx hbV (nx hb7 hS1)
    exact concat_any B _ _ _ _ _ _ b2 w_ (HI.out w_ hu).1 hS2 (HI.out w_ hu).2 hS3 hS5 hS6 hS7 (HH.out w_ hu).2 (by rw [List.length_take];omega) (by simp) (by rw [List.length_drop];omega)
   intro v3 u3 hv3
   simp only [Act.put,sA,sB,sC]
   repeat (first | (refine Rf.Steps.sk ?_;simp only [Act.put,sA,sB,sC]) | (refine Rf.Steps.pu (v:=?_) ?_ ?_;rotate_left;(intro w_ hS_;skip;go_simp<;>with_reducible rfl);simp only [Act.put,sA,sB,sC]))
   refine Rf.Steps.nil (by kernel_rfl) ?_
   intro w9 hS9
   have HF:=lH (show Below w.heap.size w w9∧NC B (noteL l (r1,r2,r3,r4,r5)) v3 w9 from ⟨nx hbV (nx hb7 hS9.1.1.1),by rw [HE.out.2];exact hS9.2⟩)
   clear hS9 hv3
   go_wp2
   go_ret2
   exact ⟨v3,by (rw [HE.out.1])<;>rfl,HF.out.1,HF.out.2⟩
end Go.Proofs.YtjhocpcpkemcaaaGreat.Se
namespace Go.Proofs.YtjhocpcpkemcaaaGreat.Se
open Go.RowKit
open Rw
open Da
theorem rRight_is {q:Bool} {l:List Sn} (H:Hid (right l=q)) {B:Bs} {v:Value} {w:World} (h:NL B l v w) (hm:l.length≤1000000) :
  Calls Tryz.prog 62 #[v] w fun e w'=>e=.returned (.bool q)∧Below w.heap.size w w':=by
 rw [← H.out];exact rRight_any B l v w h hm
end Go.Proofs.YtjhocpcpkemcaaaGreat.Se
namespace Go.Proofs.YtjhocpcpkemcaaaGreat.Ex
open Go.RowKit
open Rw
open Da
open Le (LL eL Lv flat low_setCell keeps_setCell)
open La (Ln LN LB cN)
open Ac (Hd Pu HL giveE giveL takeE takeL)
open Se (NL eS Sn Rp)
def depR (x:Xc) (p:Pu) (q:Int):Xc × Int :=
 if giveE x.inn p q=0 then (if giveE x.free p q=0 then ({ x with inn:=giveL x.inn p q,free:=giveL x.free p q },0) else (x,giveE x.free p q)) else (x,giveE x.inn p q)
def wdrR (x:Xc) (p:Pu) (q:Int):Xc × Int :=
 if takeE x.free p q=0 then (if giveE x.out p q=0 then ({ x with out:=giveL x.out p q,free:=takeL x.free p q },0) else (x,giveE x.out p q)) else (x,takeE x.free p q)
def Post2 (F:Value→World→Prop) (k:Int) (w:World) (e:Ending) (w':World):Prop:=∃ v,e=.returned (.tuple #[v,.int .i64 k])∧Below w.heap.size w w'∧F v w'
section
variable (ρ:Operand→Value) (dst:Option Tmp) (ty:TypeId) (pos:String) (after:Array Edge) (guard:Option (Nat × Bool)) (w:World)
theorem loadC (x:Operand) (h:(rowOf w (ρ x)).size=9):(execOp ρ { dst,op:=.load 35 x,type:=ty,pos,after,guard }).run Tryz.prog w=.ok (.value (.agg (rowOf w (ρ x)))) w :=
 exec_load (n:=8) ρ dst ty pos after guard w Tryz.underlying35 rfl (by kernel_rfl) x h
end
theorem size9 (a b c d e f g h i:Value):(#[a,b,c,d,e,f,g,h,i]:Array Value).size=9:=rfl
theorem row_setRow (w:World) (p q:Nat) (c:Array Value) (h:q≠p):row (w.setRow p c) q=row w q:=by unfold Rw.row;rw [setRow_other w p q c h]
theorem plain_setRow (m:Nat) (w:World) (p q:Nat) (c:Array Value) (h:q≠p):plain m (w.setRow p c) q=plain m w q:=by unfold Rw.plain;rw [setRow_other w p q c h]
theorem row_setCell (w:World) (p o q:Nat) (v:Value) (h:q≠p):row (w.setCell ⟨p,o,none⟩ v) q=row w q:=by unfold Rw.row;rw [Below.heap_setCell w ⟨p,o,none⟩ v q h]
attribute [go_sem ↓] loadC
attribute [go_sem] size9 row_setRow plain_setRow row_setCell
def c9 (a b c d e f g h i:Int):Nat→Int
 | 0=>a
 | 1=>b
 | 2=>c
 | 3=>d
 | 4=>e
 | 5=>f
 | 6=>g
 | 7=>h
 | _=>i
def purR (x:Xc) (k:Int) (p:Pu) (q:Int):Xc × Int:=if k=1 then depR x p q else if k=2 then wdrR x p q else (x,0)
theorem execP_is (x:Xc) (c:Nat→Int):execP x c=if c 2≠7∧c 8=0 then (x,1,0,0) else ((purR x (c 2) (c 0,c 4) (c 8)).1,(purR x (c 2) (c 0,c 4) (c 8)).2,if (purR x (c 2) (c 0,c 4) (c 8)).2=0 then Ac.get (purR x (c 2) (c 0,c 4) (c 8)).1.free (c 0,c 4) else 0,0):=by
 unfold execP purR depR wdrR
 by_cases h1:c 2≠7∧c 8=0
 ·rw [if_pos h1,if_pos h1]
 rw [if_neg h1,if_neg h1]
 by_cases h2:c 2=1
 ·rw [if_pos h2,if_pos h2]
  by_cases h3:giveE x.inn (c 0,c 4) (c 8)=0
  ·rw [if_pos h3,if_pos h3]
   by_cases h4:giveE x.free (c 0,c 4) (c 8)=0
   ·rw [if_pos h4,if_pos h4];rfl
   ·rw [if_neg h4,if_neg h4];simp only;rw [if_neg h4]
  ·rw [if_neg h3,if_neg h3];simp only;rw [if_neg h3]
 rw [if_neg h2,if_neg h2]
 by_cases h5:c 2=2
 ·rw [if_pos h5,if_pos h5]
  by_cases h3:takeE x.free (c 0,c 4) (c 8)=0
  ·rw [if_pos h3,if_pos h3]
   by_cases h4:giveE x.out (c 0,c 4) (c 8)=0
   ·rw [if_pos h4,if_pos h4];rfl
   ·rw [if_neg h4,if_neg h4];simp only;rw [if_neg h4]
  ·rw [if_neg h3,if_neg h3];simp only;rw [if_neg h3]
 ·rw [if_neg h5,if_neg h5];rfl
theorem dep_len {x:Xc} (hs:SmX x) (p:Pu) (q:Int):(depR x p q).1.free.length≤1000:=by
 unfold depR
 by_cases h1:giveE x.inn p q=0
 ·rw [if_pos h1]
  by_cases h2:giveE x.free p q=0
  ·rw [if_pos h2];exact Nat.le_trans (Ac.right_512 (Ac.give_done h2).1) (by decide)
  ·rw [if_neg h2];exact hs.free
 ·rw [if_neg h1];exact hs.free
theorem wdr_len {x:Xc} (hs:SmX x) (p:Pu) (q:Int):(wdrR x p q).1.free.length≤1000:=by
 unfold wdrR
 by_cases h1:takeE x.free p q=0
 ·rw [if_pos h1]
  by_cases h2:giveE x.out p q=0
  ·rw [if_pos h2];exact Nat.le_trans (Ac.right_512 (Ac.take_done (La.take_ok h1).1 (La.take_ok h1).2.1 h1).1) (by decide)
  ·rw [if_neg h2];exact hs.free
 ·rw [if_neg h1];exact hs.free
section
variable {n b:Nat} {y:Xc} {f l s i o:Value} {cc rc pc:Array Value} {w u:World}
theorem lt_of_some {w:World} {k:Nat} {o:Obj} (h:w.heap[k]?=some o):k<w.heap.size:=(Array.getElem?_eq_some_iff.1 h).1
theorem heap_al (w:World) (o:Obj) (k:Nat):(w.alloc o).heap[k]?=if k=w.heap.size then some o else w.heap[k]?:=by
 show (w.heap.push o)[k]?=_
 rw [Array.getElem?_push]
theorem row_is {w:World} {k:Nat} {c:Array Value} {T:TypeId} {z:Nat × Nat} (h:w.heap[k]?=some (.cells c T z)):row w k=c:=by unfold Rw.row;rw [h]
theorem plain_is {w:World} {k m:Nat} {c:Array Value} {T:TypeId} (h:w.heap[k]?=some (.cells c T (0,0))) (hm:c.size=m):plain m w k=true:=by unfold Rw.plain;rw [h];simp [hm]
theorem cell_is {w:World} {k j:Nat} {c:Array Value} {T:TypeId} {z:Nat × Nat} (h:w.heap[k]?=some (.cells c T z)):w.cell? ⟨k,j,none⟩=c[j]?:=by simp [World.cell?,h]
theorem thawed_is {w:World} {k j:Nat} {c:Array Value} {T:TypeId} (h:w.heap[k]?=some (.cells c T (0,0))):w.frozen? ⟨k,j,none⟩=false:=by simp [World.frozen?,h]
end
end Go.Proofs.YtjhocpcpkemcaaaGreat.Ex
