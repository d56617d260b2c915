/- Sessions and replies in memory. -/
import Derived.Test.YtjhocpcpkemcaaaGreatQeZZ
import Derived.Test.YtjhocpcpkemcaaaGreatRows
import Derived.Test.YtjhocpcpkemcaaaGreatQeAM
import Derived.Test.YtjhocpcpkemcaaaGreatQeAG
import Derived.Test.YtjhocpcpkemcaaaGreatQeAJ
import Derived.Test.YtjhocpcpkemcaaaGreatQeAK
import Derived.Lib.Hide
import Derived.Deep.QuietTactic
import Derived.StillTailTactics
import Derived.OrdersHeld
import Derived.KernelRfl
import Derived.Below
import Derived.Deep.LoopGhost
set_option linter.unusedVariables false
set_option maxRecDepth 16000
set_option maxHeartbeats 32000000
namespace Go.Proofs.YtjhocpcpkemcaaaGreat.Se
open Go.RowKit
open Rw
open Da
theorem ret_bool {a b:Bool} (h:a=b):Ending.returned (.bool a)=.returned (.bool b):=by rw [h]
theorem ret_int {k:IntKind} {a b:Int} (h:a=b):Ending.returned (.int k a)=.returned (.int k b):=by rw [h]
def cellsS (s:Sn):List Value:=[.int .i64 s.1,.int .i64 s.2.1,.int .i64 s.2.2.1,.int .i64 s.2.2.2.1,.int .i64 s.2.2.2.2.1,.int .i64 s.2.2.2.2.2.1,.int .i64 s.2.2.2.2.2.2]
abbrev cR (r:Rp):Array Value:=#[.int .i64 r.1,.int .i64 r.2.1,.int .i64 r.2.2.1,.int .i64 r.2.2.2.1,.int .i64 r.2.2.2.2]
def eS:Enc Sn:=Enc.flat 7 cellsS (fun _=>rfl) (fun o u hu=>by simp [cellsS] at hu;rcases hu with rfl | rfl | rfl | rfl | rfl | rfl | rfl<;>rfl)
abbrev NL (B:Bs) (l:List Sn) (v:Value) (w:World):Prop:=Is eS 54 B l v w
theorem typesS:54 ∉ eS.ts:=by decide
theorem infoS:(Tryz.prog.info? 54).map (fun i=>(i.zero,i.size,i.bytes))=some (some (.agg #[.int .i64 0,.int .i64 0,.int .i64 0,.int .i64 0,.int .i64 0,.int .i64 0,.int .i64 0]),7,56):=by kernel_rfl
theorem elemS:Elem Tryz.prog 26 54 eS.k 56:=elem_of Tryz.underlying26 infoS rfl (by decide)
theorem at7 {B:Bs} {l:List Sn} {b off:Nat} {w:World} (h:Lies eS 54 B l b off w) (i:Nat) (hi:i<l.length) :
  w.cell? ⟨b,off+i*7,none⟩=some (.int .i64 l[i].1)∧w.cell? ⟨b,off+i*7+1,none⟩=some (.int .i64 l[i].2.1)∧w.cell? ⟨b,off+i*7+2,none⟩=some (.int .i64 l[i].2.2.1)∧w.cell? ⟨b,off+i*7+3,none⟩=some (.int .i64 l[i].2.2.2.1)∧w.cell? ⟨b,off+i*7+4,none⟩=some (.int .i64 l[i].2.2.2.2.1)∧w.cell? ⟨b,off+i*7+5,none⟩=some (.int .i64 l[i].2.2.2.2.2.1)∧w.cell? ⟨b,off+i*7+6,none⟩=some (.int .i64 l[i].2.2.2.2.2.2):=by
 obtain ⟨cs,rfl,hu⟩:=h.at i hi
 exact ⟨hu 0 _ rfl,hu 1 _ rfl,hu 2 _ rfl,hu 3 _ rfl,hu 4 _ rfl,hu 5 _ rfl,hu 6 _ rfl⟩
section
variable (ρ:Operand→Value) (dst:Option Tmp) (ty:TypeId) (pos:String) (after:Array Edge) (guard:Option (Nat × Bool)) (w:World)
theorem loadS (x:Operand) (h:(rowOf w (ρ x)).size=7):(execOp ρ { dst,op:=.load 54 x,type:=ty,pos,after,guard }).run Tryz.prog w=.ok (.value (.agg (rowOf w (ρ x)))) w :=
 exec_load (n:=6) ρ dst ty pos after guard w Tryz.underlying54 rfl (by kernel_rfl) x h
theorem storeS (p x:Operand) (h:plainAt 7 w (ρ p)=true) (hs:(ρ x).cells.size=7) (h1:oneAll (ρ x)=true) (ha:ρ x=.agg (ρ x).cells):(execOp ρ { dst,op:=.store 54 p x,type:=ty,pos,after,guard }).run Tryz.prog w=.ok .skip (putRow w (ρ p) (ρ x).cells) :=
 exec_store (n:=6) ρ dst ty pos after guard w (by kernel_rfl) p x h hs h1 ha
theorem loadR (x:Operand) (h:(rowOf w (ρ x)).size=5):(execOp ρ { dst,op:=.load 37 x,type:=ty,pos,after,guard }).run Tryz.prog w=.ok (.value (.agg (rowOf w (ρ x)))) w :=
 exec_load (n:=4) ρ dst ty pos after guard w Tryz.underlying37 rfl (by kernel_rfl) x h
theorem storeR (p x:Operand) (h:plainAt 5 w (ρ p)=true) (hs:(ρ x).cells.size=5) (h1:oneAll (ρ x)=true) (ha:ρ x=.agg (ρ x).cells):(execOp ρ { dst,op:=.store 37 p x,type:=ty,pos,after,guard }).run Tryz.prog w=.ok .skip (putRow w (ρ p) (ρ x).cells) :=
 exec_store (n:=4) ρ dst ty pos after guard w (by kernel_rfl) p x h hs h1 ha
end
theorem cells_agg (c:Array Value):(Value.agg c).cells=c:=rfl
theorem one5 (a b c d e:Int):oneAll (.agg #[.int .i64 a,.int .i64 b,.int .i64 c,.int .i64 d,.int .i64 e])=true:=by simp [oneAll,Value.cells,Value.oneCell']
theorem one7 (a b c d e f g:Int):oneAll (.agg #[.int .i64 a,.int .i64 b,.int .i64 c,.int .i64 d,.int .i64 e,.int .i64 f,.int .i64 g])=true:=by simp [oneAll,Value.cells,Value.oneCell']
theorem size5 (a b c d e:Value):(#[a,b,c,d,e]:Array Value).size=5:=rfl
theorem size7 (a b c d e f g:Value):(#[a,b,c,d,e,f,g]:Array Value).size=7:=rfl
attribute [go_sem ↓] loadS storeS loadR storeR
attribute [go_sem] cells_agg one5 size5 one7 size7
theorem ret_R2 {fn:Func} {p q:Tmp} (h:fn.results=#[.cell p 37,.tmp q]) (tmps:Array Value) (w:World) {cs:Array Value} (hs:cs.size=5) (hr:rowOf w (tmps.getD p undef)=cs):(results fn tmps).run Tryz.prog w=.ok (.tuple #[.agg cs,tmps.getD q undef]) w :=
 ret2 (n:=4) h Tryz.underlying37 rfl (by kernel_rfl) tmps w hs hr
theorem fieldsR:Tryz.prog.underlying 37=some (.struct (Tryz.prog.fieldsOf 37)):=by kernel_rfl
theorem fieldsS:Tryz.prog.underlying 54=some (.struct (Tryz.prog.fieldsOf 54)):=by kernel_rfl
def eqR (a b:Rp):Bool:=decide (a=b)
def eqS (a b:Sn):Bool:=decide (a=b)
theorem runR (n:Nat) (hn:2≤n) (a b c d e a' b' c' d' e':Int) (w:World):(Op.equalIn n 37 (.agg #[.int .i64 a,.int .i64 b,.int .i64 c,.int .i64 d,.int .i64 e]) (.agg #[.int .i64 a',.int .i64 b',.int .i64 c',.int .i64 d',.int .i64 e'])).run Tryz.prog w=.ok (eqR (a,b,c,d,e) (a',b',c',d',e')) w:=by
 obtain ⟨m,rfl⟩:∃ m,n=m+2:=⟨n - 2,by omega⟩
 rw [run_equalIn_agg w (m+1) _ _ _ fieldsR (by kernel_rfl)]
 simp only [Program.fieldsOf,Tryz.underlying37]
 simp [Op.eqFields,go_sem]
 by_cases h0:a=a'<;>by_cases h1:b=b'<;>by_cases h2:c=c'<;>by_cases h3:d=d'<;>by_cases h4:e=e'<;>simp [eqR,h0,h1,h2,h3,h4]
theorem eqlR (a b c d e a' b' c' d' e':Int) (w:World):(binOp .eql 37 (.agg #[.int .i64 a,.int .i64 b,.int .i64 c,.int .i64 d,.int .i64 e]) (.agg #[.int .i64 a',.int .i64 b',.int .i64 c',.int .i64 d',.int .i64 e'])).run Tryz.prog w=.ok (.bool (eqR (a,b,c,d,e) (a',b',c',d',e'))) w:=by
 rw [run_eql_struct,runR 10000 (by omega)];rfl
theorem neqR (a b c d e a' b' c' d' e':Int) (w:World):(binOp .neq 37 (.agg #[.int .i64 a,.int .i64 b,.int .i64 c,.int .i64 d,.int .i64 e]) (.agg #[.int .i64 a',.int .i64 b',.int .i64 c',.int .i64 d',.int .i64 e'])).run Tryz.prog w=.ok (.bool (!eqR (a,b,c,d,e) (a',b',c',d',e'))) w:=by
 rw [run_neq_struct,runR 10000 (by omega)];rfl
theorem guardR (op:BinOp) (p q:Operand) (a b c d e a' b' c' d' e':Int) (w:World):(eqGuard op 37 p q (.agg #[.int .i64 a,.int .i64 b,.int .i64 c,.int .i64 d,.int .i64 e]) (.agg #[.int .i64 a',.int .i64 b',.int .i64 c',.int .i64 d',.int .i64 e'])).run Tryz.prog w=.ok () w :=
 run_eqGuard_agg w op _ p q _ _ (by kernel_rfl)
theorem runS (a b c d e f g a' b' c' d' e' f' g':Int) (w:World):(Op.equalIn 10000 54 (.agg #[.int .i64 a,.int .i64 b,.int .i64 c,.int .i64 d,.int .i64 e,.int .i64 f,.int .i64 g]) (.agg #[.int .i64 a',.int .i64 b',.int .i64 c',.int .i64 d',.int .i64 e',.int .i64 f',.int .i64 g'])).run Tryz.prog w=.ok (eqS (a,b,c,d,e,f,g) (a',b',c',d',e',f',g')) w:=by
 rw [run_equalIn_agg w 9999 _ _ _ fieldsS (by kernel_rfl)]
 simp only [Program.fieldsOf,Tryz.underlying54]
 simp [Op.eqFields,go_sem,runR]
 by_cases h0:a=a'<;>by_cases h1:b=b'<;>by_cases h2:c=c'<;>by_cases h3:d=d'<;>by_cases h4:e=e'<;>by_cases h5:f=f'<;>by_cases h6:g=g'<;>simp [eqS,eqR,h0,h1,h2,h3,h4,h5,h6]
theorem neqS (a b c d e f g a' b' c' d' e' f' g':Int) (w:World):(binOp .neq 54 (.agg #[.int .i64 a,.int .i64 b,.int .i64 c,.int .i64 d,.int .i64 e,.int .i64 f,.int .i64 g]) (.agg #[.int .i64 a',.int .i64 b',.int .i64 c',.int .i64 d',.int .i64 e',.int .i64 f',.int .i64 g'])).run Tryz.prog w=.ok (.bool (!eqS (a,b,c,d,e,f,g) (a',b',c',d',e',f',g'))) w:=by
 rw [run_neq_struct,runS];rfl
theorem guardS (op:BinOp) (p q:Operand) (a b c d e f g a' b' c' d' e' f' g':Int) (w:World):(eqGuard op 54 p q (.agg #[.int .i64 a,.int .i64 b,.int .i64 c,.int .i64 d,.int .i64 e,.int .i64 f,.int .i64 g]) (.agg #[.int .i64 a',.int .i64 b',.int .i64 c',.int .i64 d',.int .i64 e',.int .i64 f',.int .i64 g'])).run Tryz.prog w=.ok () w :=
 run_eqGuard_agg w op _ p q _ _ (by kernel_rfl)
attribute [go_sem ↓] eqlR neqR guardR neqS guardS
def isB (s:Sn) (c:Int):Bool:=decide (s.1=c∧1≤s.2.1∧s.2.1≤1125899906842624∧s.2.2.1=c∧s.2.2.2.1=s.2.1)
theorem isOf_any (a b c d e f g x:Int) (w:World):Calls Tryz.prog 105 #[.agg #[.int .i64 a,.int .i64 b,.int .i64 c,.int .i64 d,.int .i64 e,.int .i64 f,.int .i64 g],.int .i64 x] w fun r w'=>r=.returned (.bool (isB (a,b,c,d,e,f,g) x))∧Below w.heap.size w w':=by
 obtain ⟨q,hq⟩:∃ q,isB (a,b,c,d,e,f,g) x=q:=⟨_,rfl⟩
 rw [hq]
 have H:=lH hq
 clear hq
 go_enter Tryz.func105,Tryz.ntmps105
 go_wp2
 all_goals
  go_ret
  exact ⟨ret_bool (by rw [← H.out];unfold isB;rw [Bool.eq_iff_iff];simp;try omega),below1 _ _⟩
theorem isOf_is {a b c d e f g x:Int} {r:Bool} (h:Hid (isB (a,b,c,d,e,f,g) x=r)) (w:World):Calls Tryz.prog 105 #[.agg #[.int .i64 a,.int .i64 b,.int .i64 c,.int .i64 d,.int .i64 e,.int .i64 f,.int .i64 g],.int .i64 x] w fun e w'=>e=.returned (.bool r)∧Below w.heap.size w w':=by
 rw [← h.out];exact isOf_any a b c d e f g x w
theorem ret_S2 {fn:Func} {p q:Tmp} (h:fn.results=#[.cell p 54,.tmp q]) (tmps:Array Value) (w:World) {cs:Array Value} (hs:cs.size=7) (hr:rowOf w (tmps.getD p undef)=cs):(results fn tmps).run Tryz.prog w=.ok (.tuple #[.agg cs,tmps.getD q undef]) w :=
 ret2 (n:=6) h Tryz.underlying54 rfl (by kernel_rfl) tmps w hs hr
def fV:Option Sn→Value
 | some s=>.tuple #[.agg #[.int .i64 s.1,.int .i64 s.2.1,.int .i64 s.2.2.1,.int .i64 s.2.2.2.1,.int .i64 s.2.2.2.2.1,.int .i64 s.2.2.2.2.2.1,.int .i64 s.2.2.2.2.2.2],.bool true]
 | none=>.tuple #[.agg #[.int .i64 0,.int .i64 0,.int .i64 0,.int .i64 0,.int .i64 0,.int .i64 0,.int .i64 0],.bool false]
theorem drop_cons {α:Type} {l:List α} {k:Nat} (h:k<l.length):l.drop k=l[k] :: l.drop (k+1):=List.drop_eq_getElem_cons h
theorem fnd_drop {l:List Sn} {k:Nat} (h:k<l.length) (c:Int):fnd c (l.drop k)=if l[k].1=c then some l[k] else fnd c (l.drop (k+1)):=by
 rw [drop_cons h];rfl
theorem first_any (B:Bs) (l:List Sn) (v:Value) (c:Int) (w:World) (h:NL B l v w) (hm:l.length≤1000000) :
  Calls Tryz.prog 65 #[v,.int .i64 c] w fun e w'=>e=.returned (fV (fnd c l))∧Below w.heap.size w w':=by
 obtain ⟨a,cp,rfl,hel⟩:=h
 obtain ⟨n,hn⟩:∃ n,n=l.length:=⟨_,rfl⟩
 obtain ⟨r,hr⟩:∃ r,fnd c l=r:=⟨_,rfl⟩
 rw [← hn] at hm ⊢
 rw [hr]
 have HN:=lH hn
 have HR:=lH hr
 have HE:=lH hel
 clear hn hr hel
 go_enter Tryz.func65,Tryz.ntmps65
 go_wp2
 obtain ⟨W,hW⟩:∃ W,W=w.alloc (.cells #[.int .i64 0,.int .i64 0,.int .i64 0,.int .i64 0,.int .i64 0,.int .i64 0,.int .i64 0] 54):=⟨_,rfl⟩
 have hbW:Below w.heap.size w W:=hW ▸ below1 w _
 have hz:w.heap.size<W.heap.size:=by rw [hW];simp
 have hpl:plain 7 W w.heap.size=true:=by rw [hW];simp [go_sem]
 have HP:=lH hpl
 rw [← hW]
 clear hpl hW
 go_loopw [10] (fun i wr=>∃ k:Nat,k≤n∧i=.int .i64 k∧Below W.heap.size W wr∧fnd c (l.drop k)=r) (fun i _=>n - (intOf i).toNat)
 case atStart=>exact ⟨0,Nat.zero_le _,rfl,Below.refl _ _,HR.out⟩
 case round =>
  obtain ⟨k,hk,rfl,hb,hrk⟩:=hrel
  have hz2:w.heap.size<wr.heap.size:=by have:=hb.size;omega
  have hpi:plain 7 wr w.heap.size=true:=by rw [(bcell hb).2.2.2 _ _ hz];exact HP.out
  by_cases hlt:k<n
  ·have hlt2:(k:Int)<n:=by omega
   have hkl:k<l.length:=by rw [← HN.out];exact hlt
   rcases HE.out with ⟨e,_⟩ | ⟨b,off,rfl,hat⟩
   ·rw [e] at hkl;cases hkl
   ·have hat3:=Lies.keep eS 54 hat (Keeps.of_below (nx hbW hb))
    have hc:=at7 hat3 k hkl
    have hb3:=hat3.1
    rw [fnd_drop hkl] at hrk
    obtain ⟨⟨s1,s2,s3,s4,s5,s6,s7⟩,hs⟩:∃ s,l[k]=s:=⟨_,rfl⟩
    rw [hs] at hrk hc
    simp only at hrk hc
    obtain ⟨c0,c1,c2,c3,c4,c5,c6⟩:=hc
    clear hat hat3 hs
    by_cases e:s1=c
    ·have hd:(s1==c)=true:=by simpa using e
     rw [if_pos e] at hrk
     have HZ:=lH hrk
     clear hrk e
     go_wp2
     refine bodyPost_ret (v:=fV (some (s1,s2,s3,s4,s5,s6,s7))) (ret_S2 Tryz.results65 _ _ rfl ?c1) rfl ⟨by rw [HZ.out],?c2⟩
     case c1=>exact (row_past _ _ _ (by rw [setRow_size];exact hz2)).trans (row_set _ hpi)
     case c2=>exact (below_setRow (nx hbW hb) (Nat.le_refl _) _).alloc (by rw [setRow_size];omega) _
    ·have hd:(s1==c)=false:=by simpa using e
     rw [if_neg e] at hrk
     have HZ:=lH hrk
     clear hrk e
     go_wp2
     go_roundw
     case rel=>exact ⟨k+1,by omega,by go_num,nx hb (below1 _ _),HZ.out⟩
     case measure=>simp [intOf];omega
  ·obtain rfl:k=n:=by omega
   have HZ:Hid (r=none):=lH (by rw [← hrk,HN.out,List.drop_length];rfl)
   clear hrk
   go_wp2
   refine bodyPost_ret (v:=fV none) (ret_S2 Tryz.results65 _ _ rfl ?c3) rfl ⟨by rw [HZ.out],?c4⟩
   case c3=>exact row_set _ hpi
   case c4=>exact below_setRow (nx hbW hb) (Nat.le_refl _) _
end Go.Proofs.YtjhocpcpkemcaaaGreat.Se
namespace Go.Proofs.YtjhocpcpkemcaaaGreat.Rg
open Go.RowKit
section
variable {P:Program} {ops:Array Oper} {Q:Exit→Act→World→Prop} {md:Region.Mode} {S:World→Prop}
def Gives (P:Program) (S:World→Prop) (v:Value):Result Next→Prop
 | .ok (.value u) w=>u=v∧S w
 | .ok .skip w=>v=undef∧S w
 | .ok (.enter f args) w=>Calls P f args w fun e w'=>e=.returned v∧S w'
 | _=>False
def GivesIf (P:Program) (ops:Array Oper) (S:World→Prop) (o:Oper) (v:Value) (a:Act):Prop :=
 (Region.wanted o (yielded ops a.tmps)=true∧∀ w,S w→Gives P S v ((execOp a.eval o).run P w))∨(Region.wanted o (yielded ops a.tmps)=false∧v=undef)
theorem GivesIf.same {o:Oper} {v:Value} {a a':Act} (h:GivesIf P ops S o v a) (he:execOp a'.eval o=execOp a.eval o) (hw:Region.wanted o (yielded ops a'.tmps)=Region.wanted o (yielded ops a.tmps)):GivesIf P ops S o v a':=by
 unfold GivesIf;rw [he,hw];exact h
theorem GivesIf.op {i:Nat} {o:Oper} {v:Value} {a:Act} (hi:ops[i]?=some o) (h:GivesIf P ops S o v a) {K:Act→World→Prop} {w:World} (hS:S w) (hK:∀ w',S w'→K (a.put o.dst v) w'):wpOp P ops Q i K a w:=by
 unfold wpOp
 simp only [hi]
 rcases h with ⟨hw,hg⟩ | ⟨hw,rfl⟩
 ·rw [if_pos hw]
  refine .inl ?_
  have g:=hg w hS
  unfold Oper.wp
  generalize (execOp a.eval o).run P w=r at g
  match r,g with
  | .ok (.value _) w',g=>obtain ⟨rfl,g2⟩:=g;exact hK _ g2
  | .ok .skip w',g=>obtain ⟨rfl,g2⟩:=g;exact hK _ g2
  | .ok (.enter f args) w',g =>
   refine Calls.mono g fun e w'' he=>?_
   obtain ⟨rfl,g2⟩:=he
   exact hK _ g2
 ·rw [if_neg (by rw [hw];decide)];exact hK _ hS
theorem op_apart {j:Nat} {oi oj:Oper} {v:Value} (hj:ops[j]?=some oj) (hap:oi.apart ops oj=true) (hsj:∀ cs b,oj.op≠.select cs b) (hQ:∀ c a d v w,Q (.panic c) (Act.put a d v) w→Q (.panic c) a w)
  {K:Act→World→Prop} {a:Act} {w:World} (h:wpOp P ops Q j K (a.put oi.dst v) w) :
  wpOp P ops Q j (fun a' w'=>(∃ u ds,a'=({ a with defers:=ds }:Act).put oj.dst u)∧K (a'.put oi.dst v) w') a w:=by
 obtain ⟨h1,h2,_⟩:=Oper.apart_spec hap
 have turn:∀ (b:Act) (u:Value),(b.put oi.dst v).put oj.dst u=(b.put oj.dst u).put oi.dst v:=fun b u=>Act.put_comm b v u h2
 have wd:=wanted_put (ops:=ops) oj a oi.dst v h1
 have ex:=execOp_put (ops:=ops) oj hsj a oi.dst v h1
 simp only [wpOp,hj] at h ⊢
 rw [wd] at h
 by_cases hw:Region.wanted oj (yielded ops a.tmps)=true
 ·rw [if_pos hw] at h ⊢
  rcases h with h | ⟨k,l⟩
  ·refine .inl ?_
   unfold Oper.wp at h ⊢
   rw [ex] at h
   match (execOp a.eval oj).run P w,h with
   | .ok (.value u) w',h=>exact ⟨⟨u,a.defers,rfl⟩,turn a u ▸ h⟩
   | .ok .skip w',h=>exact ⟨⟨undef,a.defers,rfl⟩,turn a undef ▸ h⟩
   | .ok (.defer d) w',h =>
    refine ⟨⟨undef,d :: a.defers,rfl⟩,?_⟩
    rw [← turn,← Act.put_defers];exact h
   | .ok (.enter f args) w',h =>
    refine Calls.mono h fun e w'' he=>?_
    match e,he with
    | .returned u,he=>exact ⟨⟨u,a.defers,rfl⟩,turn a u ▸ he⟩
    | .panicked c,he=>exact hQ _ _ _ _ _ he
    | .outgrown,he=>exact he
   | .ok (.row row args) w',h=>exact Rows.mono h fun u w'' he=>⟨⟨u,a.defers,rfl⟩,turn a u ▸ he⟩
   | .halt (.panic u) w',h=>exact hQ _ _ _ _ _ h
  ·refine .inr ⟨?_,l⟩
   unfold Oper.asks at k ⊢
   rw [ex] at k;exact k
 ·rw [if_neg hw] at h ⊢
  exact ⟨⟨undef,a.defers,rfl⟩,turn a undef ▸ h⟩
def Any (P:Program) (md:Region.Mode) (ops:Array Oper) (Q:Exit→Act→World→Prop) (S:World→Prop):Nat→Array Bool→Act→Prop
 | 0,listed,a=>Region.ready md ops listed=[]∧∀ w,S w→Q .normal a w
 | n+1,listed,a=>(Region.ready md ops listed=[]→∀ w,S w→Q .normal a w) ∧
  ∀ i∈Region.ready md ops listed,∀ w,S w→wpOp P ops Q i (fun a' w'=>S w'∧Any P md ops Q S n (listed.setIfInBounds i true) a') a w
theorem Any.any:∀ (n:Nat) (listed:Array Bool) (a:Act) (w:World),S w→Any P md ops Q S n listed a→wpAny P md ops Q n listed a w
 | 0,_,_,w,hS,h=>⟨h.1,h.2 w hS⟩
 | n+1,_,_,w,hS,h=>⟨fun e=>h.1 e w hS,fun i hi=>wpOp_mono (fun a' w' k=>Any.any n _ a' w' k.1 k.2) (h.2 i hi w hS)⟩
theorem Any.first {i:Nat} {oi:Oper} {v:Value} (hi:ops[i]?=some oi) (hs:Region.noSelect ops=true) (hQ:∀ c a d v w,Q (.panic c) (Act.put a d v) w→Q (.panic c) a w) :
  ∀ (n:Nat) (listed:Array Bool) (a:Act),(∀ j oj,ops[j]?=some oj→j≠i→listed.getD j true=false→(∀ e∈oj.after,Region.binds md e=true→e.on≠i)→oi.apart ops oj=true) →
   i∈Region.ready md ops listed→GivesIf P ops S oi v a→Any P md ops Q S n (listed.setIfInBounds i true) (a.put oi.dst v)→Any P md ops Q S (n+1) listed a:=by
 have sel:=Region.noSelect_spec hs
 intro n
 induction n with
 | zero =>
  intro listed a _ hr hg H
  refine ⟨fun e=>absurd hr (by rw [e];exact List.not_mem_nil),fun j hj w hw=>?_⟩
  by_cases e:j=i
  ·subst e;exact hg.op hi hw fun w' hw'=>⟨hw',H⟩
  ·exact absurd (ready_mono hj e) (by rw [H.1];exact List.not_mem_nil)
 | succ n ih =>
  intro listed a hfree hr hg H
  refine ⟨fun e=>absurd hr (by rw [e];exact List.not_mem_nil),fun j hj w hw=>?_⟩
  by_cases e:j=i
  ·subst e;exact hg.op hi hw fun w' hw'=>⟨hw',H⟩
  ·obtain ⟨jun,oj,hoj,hall⟩:=mem_ready.1 hj
   have hno:∀ x∈oj.after,Region.binds md x=true→x.on≠i:=fun x hx hb hxi=>by
    have k1:=hall x hx hb
    have k0:=(mem_ready.1 hr).1
    rw [hxi] at k1
    by_cases hlt:i<listed.size
    ·rw [Array.getD_eq_getD_getElem?,Array.getElem?_eq_getElem hlt] at k0 k1
     rw [Option.getD_some] at k0 k1
     rw [k0] at k1;exact absurd k1 (by decide)
    ·rw [Array.getD_eq_getD_getElem?,Array.getElem?_eq_none (by omega)] at k1
     exact absurd k1 (by decide)
   have hap:=hfree j oj hoj e jun hno
   obtain ⟨_,_,h3⟩:=Oper.apart_spec hap
   refine wpOp_mono (fun a' w' k=>?_) (op_apart hoj hap (fun cs b=>sel j oj cs b hoj) hQ (H.2 j (ready_mono hj e) w hw))
   obtain ⟨⟨u,ds,rfl⟩,kS,kA⟩:=k
   refine ⟨kS,ih (listed.setIfInBounds j true) _ (fun k ok hk hki hun hno'=>?_) (ready_mono hr (Ne.symm e)) ?_ ?_⟩
   ·refine hfree k ok hk hki ?_ hno'
    by_cases hjk:j=k
    ·subst hjk;exact jun
    ·rw [getD_set_ne true hjk] at hun;exact hun
   ·refine hg.same ?_ ?_
    ·rw [execOp_put (ops:=ops) oi (fun cs b=>sel i oi cs b hi) _ oj.dst u h3];rfl
    ·rw [wanted_put (ops:=ops) oi _ oj.dst u h3]
   ·rw [Array.setIfInBounds_comm _ _ e];exact kA
theorem Any.done {listed:Array Bool} {a:Act} (hr:Region.ready md ops listed=[]) (h:∀ w,S w→Q .normal a w):∀ n,Any P md ops Q S n listed a
 | 0=>⟨hr,h⟩
 | _+1=>⟨fun _=>h,by rw [hr];simp⟩
def Seq (P:Program) (ops:Array Oper) (Q:Exit→Act→World→Prop) (S:World→Prop):List Oper→Act→Prop
 | [],a=>∀ w,S w→Q .normal a w
 | o :: os,a=>∃ v,GivesIf P ops S o v a∧Seq P ops Q S os (a.put o.dst v)
def fits (md:Region.Mode) (ops:Array Oper):Nat→Nat→Array Bool→Bool
 | _,0,listed=>(Region.ready md ops listed).isEmpty
 | k,n+1,listed=>Region.free md ops listed k&&(Region.ready md ops listed).contains k&&fits md ops (k+1) n (listed.setIfInBounds k true)
theorem Seq.any (hs:Region.noSelect ops=true) (hQ:∀ c a d v w,Q (.panic c) (Act.put a d v) w→Q (.panic c) a w):∀ (os:List Oper) (k:Nat) (listed:Array Bool) (a:Act),
  ops.toList.drop k=os→fits md ops k os.length listed=true→Seq P ops Q S os a→Any P md ops Q S os.length listed a
 | [],_,_,_,_,hf,h=>Any.done (by simpa [fits] using hf) h _
 | o :: os,k,listed,a,he,hf,⟨v,hg,h⟩=>by
  have hlt:k<ops.toList.length:=by
   rcases Nat.lt_or_ge k ops.toList.length with x | x
   ·exact x
   ·rw [List.drop_eq_nil_of_le x] at he;cases he
  rw [List.drop_eq_getElem_cons hlt] at he
  have h1:ops.toList[k]=o:=(List.cons.inj he).1
  have h2:ops.toList.drop (k+1)=os:=(List.cons.inj he).2
  have hi:ops[k]?=some o:=by
   rw [← Array.getElem?_toList,List.getElem?_eq_getElem hlt,h1]
  simp only [List.length_cons,fits,Bool.and_eq_true] at hf
  exact Any.first hi hs hQ os.length listed a (Region.free_spec hi hf.1.1) (by simpa using hf.1.2) hg (Seq.any hs hQ os (k+1) _ _ h2 hf.2 h)
theorem region {id:Nat} {a:Act} {W:World} (hm:P.follows .mixedOrders=true) (hs:Region.noSelect ops=true) (hf:fits .any ops 0 ops.toList.length (Array.replicate ops.size false)=true) (hQ:∀ c a d v w,Q (.panic c) (Act.put a d v) w→Q (.panic c) a w)
  (l:List Oper) (hl:ops.toList=l) (h:Seq P ops Q (fun w=>Below W.heap.size W w) l a):(Code.region id ops true).wp P Q a W :=
 wp_region_any hm (by
  have k:=Any.any (md:=.any) ops.toList.length (Array.replicate ops.size false) a W.drew (Below.refl _ _).drew (Seq.any hs hQ ops.toList 0 _ a rfl hf (hl ▸ h))
  rw [Array.length_toList] at k
  exact k)
theorem Seq.skip {o:Oper} {os:List Oper} {a:Act} (hw:Region.wanted o (yielded ops a.tmps)=false) (h:Seq P ops Q S os (a.put o.dst undef)):Seq P ops Q S (o :: os) a :=
 ⟨undef,.inr ⟨hw,rfl⟩,h⟩
theorem Seq.pure {o:Oper} {os:List Oper} {a:Act} {v:Value} (hw:Region.wanted o (yielded ops a.tmps)=true) (hv:∀ w,S w→(execOp a.eval o).run P w=.ok (.value v) w) (h:Seq P ops Q S os (a.put o.dst v)):Seq P ops Q S (o :: os) a :=
 ⟨v,.inl ⟨hw,fun w hS=>by rw [hv w hS];exact ⟨rfl,hS⟩⟩,h⟩
theorem Seq.call {o:Oper} {os:List Oper} {a:Act} {v:Value} {f:FuncId} {args:Array Value} (hw:Region.wanted o (yielded ops a.tmps)=true) (hv:∀ w,S w→(execOp a.eval o).run P w=.ok (.enter f args) w)
  (hc:∀ w,S w→Calls P f args w fun e w'=>e=.returned v∧S w') (h:Seq P ops Q S os (a.put o.dst v)):Seq P ops Q S (o :: os) a :=
 ⟨v,.inl ⟨hw,fun w hS=>by rw [hv w hS];exact hc w hS⟩,h⟩
end
end Go.Proofs.YtjhocpcpkemcaaaGreat.Rg
namespace Go.Proofs.YtjhocpcpkemcaaaGreat.Se
open Go.RowKit
open Rw
open Da
def cmpI (a b:Int):Int:=if a<b then -1 else if b<a then 1 else 0
theorem cmpI_lt {a b:Int}:cmpI a b<0 ↔ a<b:=by
 unfold cmpI
 split
 ·omega
 ·split<;>omega
theorem cmpI_eq {a b:Int}:cmpI a b=0 ↔ a=b:=by
 unfold cmpI
 split
 ·omega
 ·split<;>omega
theorem isNaN_any (a:Int) (w:World):Calls Tryz.prog 158 #[.int .i64 a] w fun e w'=>e=.returned (.bool false)∧w=w':=by
 go_enter Tryz.func158,Tryz.ntmps158
 go_wp2
 go_ret
 exact ⟨rfl,rfl⟩
theorem cmp_any (a b:Int) (w:World):Calls Tryz.prog 129 #[.int .i64 a,.int .i64 b] w fun e w'=>e=.returned (.int .i64 (cmpI a b))∧w=w':=by
 rcases Int.lt_trichotomy a b with h | h | h
 ·have h1:decide (a<b)=true:=decide_eq_true h
  have H:Hid (cmpI a b=-1):=lH (by unfold cmpI;rw [if_pos h])
  clear h
  go_enter Tryz.func129,Tryz.ntmps129
  go_wp2_with fail
  refine (isNaN_any a _).mono ?_
  rintro e w' ⟨rfl,rfl⟩
  go_wp2_with fail
  refine (isNaN_any b _).mono ?_
  rintro e w' ⟨rfl,rfl⟩
  go_wp2
  go_ret
  exact ⟨ret_int H.out.symm,rfl⟩
 ·have h1:decide (a<b)=false:=decide_eq_false (by omega)
  have h2:decide (b<a)=false:=decide_eq_false (by omega)
  have H:Hid (cmpI a b=0):=lH (by unfold cmpI;rw [if_neg (by omega),if_neg (by omega)])
  clear h
  go_enter Tryz.func129,Tryz.ntmps129
  go_wp2_with fail
  refine (isNaN_any a _).mono ?_
  rintro e w' ⟨rfl,rfl⟩
  go_wp2_with fail
  refine (isNaN_any b _).mono ?_
  rintro e w' ⟨rfl,rfl⟩
  go_wp2
  go_ret
  exact ⟨ret_int H.out.symm,rfl⟩
 ·have h1:decide (a<b)=false:=decide_eq_false (by omega)
  have h2:decide (b<a)=true:=decide_eq_true h
  have H:Hid (cmpI a b=1):=lH (by unfold cmpI;rw [if_neg (by omega),if_pos h])
  clear h
  go_enter Tryz.func129,Tryz.ntmps129
  go_wp2_with fail
  refine (isNaN_any a _).mono ?_
  rintro e w' ⟨rfl,rfl⟩
  go_wp2_with fail
  refine (isNaN_any b _).mono ?_
  rintro e w' ⟨rfl,rfl⟩
  go_wp2
  go_ret
  exact ⟨ret_int H.out.symm,rfl⟩
theorem compare_any (a b c d e f g a' b' c' d' e' f' g':Int) (w:World):Calls Tryz.prog 89 #[.agg #[.int .i64 a,.int .i64 b,.int .i64 c,.int .i64 d,.int .i64 e,.int .i64 f,.int .i64 g],.agg #[.int .i64 a',.int .i64 b',.int .i64 c',.int .i64 d',.int .i64 e',.int .i64 f',.int .i64 g']] w fun r w'=>r=.returned (.int .i64 (cmpI a a'))∧Below w.heap.size w w':=by
 obtain ⟨q,hq⟩:∃ q,cmpI a a'=q:=⟨_,rfl⟩
 have HQ:=lH hq
 rw [hq]
 clear hq
 go_enter Tryz.func89,Tryz.ntmps89
 go_wp2_with fail
 refine (cmp_any a a' _).mono ?_
 rintro e w' ⟨rfl,rfl⟩
 rw [HQ.out]
 go_wp2
 go_ret
 exact ⟨rfl,below2 _ _ _⟩
theorem compare_is {x b c d e f g y b' c' d' e' f' g' q:Int} (H:Hid (cmpI x y=q)) (w:World):Calls Tryz.prog 89 #[.agg #[.int .i64 x,.int .i64 b,.int .i64 c,.int .i64 d,.int .i64 e,.int .i64 f,.int .i64 g],.agg #[.int .i64 y,.int .i64 b',.int .i64 c',.int .i64 d',.int .i64 e',.int .i64 f',.int .i64 g']] w fun r w'=>r=.returned (.int .i64 q)∧Below w.heap.size w w':=by
 rw [← H.out];exact compare_any x b c d e f g y b' c' d' e' f' g' w
def cntS (c:Int) (l:List Sn):Nat:=(l.takeWhile (fun x=>decide (x.1<c))).length
def atS (c:Int) (l:List Sn):Bool:=match l[cntS c l]? with | some x=>decide (x.1=c) | none=>false
theorem cntS_of {c:Int}:∀ {l:List Sn} {k:Nat},k≤l.length→(∀ t (h:t<l.length),t<k→l[t].1<c)→(∀ t (h:t<l.length),k≤t→¬ l[t].1<c)→cntS c l=k
 | [],k,hk,_,_=>by simp at hk;subst hk;rfl
 | v :: r,0,_,_,h2=>by
  have:=h2 0 (by simp) (Nat.le_refl _)
  simp only [List.getElem_cons_zero] at this
  unfold cntS
  rw [List.takeWhile_cons,decide_eq_false this];rfl
 | v :: r,k+1,hk,h1,h2=>by
  have h0:=h1 0 (by simp) (by omega)
  simp only [List.getElem_cons_zero] at h0
  have:=cntS_of (c:=c) (l:=r) (k:=k) (by simpa using hk) (fun t h ht=>by have:=h1 (t+1) (by simpa using h) (by omega);simpa using this) (fun t h ht=>by have:=h2 (t+1) (by simpa using h) (by omega);simpa using this)
  unfold cntS at this ⊢
  rw [List.takeWhile_cons,decide_eq_true h0]
  simp [this]
theorem cntS_le (c:Int) (l:List Sn):cntS c l≤l.length:=by
 unfold cntS
 exact (List.takeWhile_sublist (l:=l) (fun x=>decide (x.1<c))).length_le
structure SrI (c:Int) (l:List Sn) (lo hi:Nat):Prop where
 a:∀ t (h:t<l.length),t<lo→l[t].1<c
 b:∀ t (h:t<l.length),hi≤t→¬ l[t].1<c
theorem ord_le {l:List Sn} (hr:Right l) {i j:Nat} (hij:i≤j) (hj:j<l.length):(l[i]'(by omega)).1≤l[j].1:=by
 by_cases e:i=j
 ·subst e;exact Int.le_refl _
 ·exact Int.le_of_lt (List.pairwise_iff_getElem.1 hr.2 i j (by omega) hj (by omega))
theorem SrI.lo {c:Int} {l:List Sn} {lo hi m:Nat} (hr:Right l) (h:SrI c l lo hi) (hm:m<l.length) (ha:l[m].1<c):SrI c l (m+1) hi :=
 ⟨fun t ht htm=>Int.lt_of_le_of_lt (ord_le hr (show t≤m by omega) hm) ha,h.b⟩
theorem SrI.hi {c:Int} {l:List Sn} {lo hi m:Nat} (hr:Right l) (h:SrI c l lo hi) (hm:m<l.length) (ha:¬ l[m].1<c):SrI c l lo m :=
 ⟨h.a,fun t ht htm hlt=>ha (Int.lt_of_le_of_lt (ord_le hr htm ht) hlt)⟩
theorem put_search (s:Sn):∀ {l:List Sn},Right l→put s l=l.take (cntS s.1 l)++([s]++l.drop (cntS s.1 l+if atS s.1 l=true then 1 else 0))
 | [],_=>rfl
 | x :: r,h=>by
  rw [put_cons h]
  by_cases c1:s.1<x.1
  ·have e:cntS s.1 (x :: r)=0:=by unfold cntS;rw [List.takeWhile_cons,decide_eq_false (by omega)];rfl
   have f:atS s.1 (x :: r)=false:=by unfold atS;rw [e];simp;omega
   rw [if_pos c1,e,f];rfl
  ·by_cases c2:s.1=x.1
   ·have e:cntS s.1 (x :: r)=0:=by unfold cntS;rw [List.takeWhile_cons,decide_eq_false (by omega)];rfl
    have f:atS s.1 (x :: r)=true:=by unfold atS;rw [e];simp [c2]
    rw [if_neg c1,if_pos c2,e,f];rfl
   ·have e:cntS s.1 (x :: r)=cntS s.1 r+1:=by unfold cntS;rw [List.takeWhile_cons,decide_eq_true (by omega)];rfl
    have f:atS s.1 (x :: r)=atS s.1 r:=by unfold atS;rw [e];rfl
    rw [if_neg c1,if_neg c2,e,f,put_search s (Right.cons.1 h).2.2,Nat.add_right_comm]
    rfl
theorem search_any (B:Bs) (l:List Sn) (v:Value) (t1 t2 t3 t4 t5 t6 t7:Int) (w:World) (h:NL B l v w) (hm:l.length≤1000000) (hr:Right l) :
  Calls Tryz.prog 88 #[v,.agg #[.int .i64 t1,.int .i64 t2,.int .i64 t3,.int .i64 t4,.int .i64 t5,.int .i64 t6,.int .i64 t7],.func (.func 89) #[] #[]] w fun e w'=>e=.returned (.tuple #[.int .i64 (cntS t1 l:Nat),.bool (atS t1 l)])∧Below w.heap.size w w':=by
 obtain ⟨a,cp,rfl,hel⟩:=h
 obtain ⟨n,hn⟩:∃ n,n=l.length:=⟨_,rfl⟩
 obtain ⟨r,hrr⟩:∃ r,atS t1 l=r:=⟨_,rfl⟩
 obtain ⟨cnt,hcn⟩:∃ r,cntS t1 l=r:=⟨_,rfl⟩
 rw [← hn] at hm ⊢
 rw [hrr,hcn]
 have HN:=lH hn
 have HR:=lH hrr
 have HC:=lH hcn
 have HE:=lH hel
 have HO:=lH hr
 clear hn hr hel hrr hcn
 go_enter Tryz.func88,Tryz.ntmps88
 go_wp2
 obtain ⟨W,hW⟩:∃ W,W=w.alloc (.cells #[.int .i64 t1,.int .i64 t2,.int .i64 t3,.int .i64 t4,.int .i64 t5,.int .i64 t6,.int .i64 t7] 54):=⟨_,rfl⟩
 have hbW:Below w.heap.size w W:=hW ▸ below1 w _
 have hz:w.heap.size<W.heap.size:=by rw [hW];simp
 have hrow:row W w.heap.size=#[.int .i64 t1,.int .i64 t2,.int .i64 t3,.int .i64 t4,.int .i64 t5,.int .i64 t6,.int .i64 t7]:=by rw [hW];simp [go_sem]
 have HW:=lH hrow
 rw [← hW]
 clear hW hrow
 go_loopg [9,10] n (fun kx s9 s10 wr=>∃ (lo hi:Nat),s9=.int .i64 lo∧s10=.int .i64 hi∧lo≤hi∧hi≤n∧hi - lo≤kx∧Below W.heap.size W wr∧SrI t1 l lo hi)
 case atStart=>exact ⟨0,n,rfl,rfl,Nat.zero_le _,Nat.le_refl _,by omega,Below.refl _ _,⟨fun t _ ht=>absurd ht (Nat.not_lt_zero _),fun t h1 h2=>by have:=HN.out;omega⟩⟩
 case round =>
  obtain ⟨lo,hi,rfl,rfl,hlh,hin,hg,hb,hI⟩:=hrel
  have I:=lH hI
  clear hI
  by_cases hlt:lo<hi
  ·have hmid:(lo+hi) / 2<l.length:=by rw [← HN.out];omega
   rcases HE.out with ⟨e,_⟩ | ⟨b,off,rfl,hat⟩
   ·rw [e] at hmid;cases hmid
   ·obtain ⟨⟨s1,s2,s3,s4,s5,s6,s7⟩,hs⟩:∃ s,l[(lo+hi) / 2]'hmid=s:=⟨_,rfl⟩
    have HK:=lH hs
    obtain ⟨md,hmd⟩:∃ md,(lo+hi) / 2=md:=⟨_,rfl⟩
    have hK:∀ u,Below W.heap.size W u→row u w.heap.size=#[.int .i64 t1,.int .i64 t2,.int .i64 t3,.int .i64 t4,.int .i64 t5,.int .i64 t6,.int .i64 t7]∧u.cell? ⟨b,off+md*7,none⟩=some (.int .i64 s1)∧u.cell? ⟨b,off+md*7+1,none⟩=some (.int .i64 s2)∧u.cell? ⟨b,off+md*7+2,none⟩=some (.int .i64 s3)∧u.cell? ⟨b,off+md*7+3,none⟩=some (.int .i64 s4)∧u.cell? ⟨b,off+md*7+4,none⟩=some (.int .i64 s5)∧u.cell? ⟨b,off+md*7+5,none⟩=some (.int .i64 s6)∧u.cell? ⟨b,off+md*7+6,none⟩=some (.int .i64 s7):=by
     intro u hu
     refine ⟨by rw [(bcell hu).2.2.1 _ hz];exact HW.out,?_⟩
     have:=at7 (Lies.keep eS 54 hat (Keeps.of_below (nx hbW hu))) _ hmid
     rw [hs,hmd] at this
     exact this
    replace hK:=fun u h=>hK u (nx hb h)
    clear hs hat
    have hm2:(((lo:Int)+(hi:Int)) / 2)=(md:Int):=by omega
    have hml:(md:Int)<n:=by omega
    by_cases hp:s1<t1
    ·have I2:=lH (I.out.lo HO.out hmid (by rw [HK.out];exact hp))
     obtain ⟨q,hq⟩:∃ q,cmpI s1 t1=q:=⟨_,rfl⟩
     have hq0:q<0:=by rw [← hq];exact cmpI_lt.2 hp
     have HQ:=lH hq
     clear hq hp
     go_wp2
     refine Rg.region (by kernel_rfl) (by kernel_rfl) (by kernel_rfl) (fun _ _ d _ _ h=>by cases d<;>exact h) _ rfl ?_
     repeat (first | (refine Rg.Seq.skip (by rfl) ?_;simp only [Act.put,sA,sB,sC]) | (refine Rg.Seq.pure (v:=?_) (by rfl) ?_ ?_;rotate_left;(intro w_ hS_;have hk_:=hK w_ hS_;go_simp<;>with_reducible rfl);simp only [Act.put,sA,sB,sC]) | (refine Rg.Seq.call (v:=?_) (f:=?_) (args:=?_) (by rfl) ?_ ?_ ?_;rotate_left 3;(intro w_ hS_;have hk_:=hK w_ hS_;go_simp<;>first | with_reducible rfl | (constructor<;>with_reducible rfl));(intro w_ hS_;first | (go_at_call 89;refine (compare_is HQ _).mono ?_;rintro e w_ ⟨rfl,hb_⟩;refine ⟨?_,nx hS_ hb_⟩;with_reducible rfl));simp only [Act.put,sA,sB,sC]))
     intro w1 hb1
     go_wp2
     go_roundg (hi - ((lo+hi) / 2+1))
     case measure=>omega
     case rel=>exact ⟨(lo+hi) / 2+1,hi,by go_num,rfl,by omega,hin,Nat.le_refl _,nx hb hb1,I2.out⟩
    ·have I2:=lH (I.out.hi HO.out hmid (by rw [HK.out];exact hp))
     obtain ⟨q,hq⟩:∃ q,cmpI s1 t1=q:=⟨_,rfl⟩
     have hq0:¬ (q<0):=by rw [← hq,cmpI_lt];exact hp
     have HQ:=lH hq
     clear hq hp
     go_wp2
     refine Rg.region (by kernel_rfl) (by kernel_rfl) (by kernel_rfl) (fun _ _ d _ _ h=>by cases d<;>exact h) _ rfl ?_
     repeat (first | (refine Rg.Seq.skip (by rfl) ?_;simp only [Act.put,sA,sB,sC]) | (refine Rg.Seq.pure (v:=?_) (by rfl) ?_ ?_;rotate_left;(intro w_ hS_;have hk_:=hK w_ hS_;go_simp<;>with_reducible rfl);simp only [Act.put,sA,sB,sC]) | (refine Rg.Seq.call (v:=?_) (f:=?_) (args:=?_) (by rfl) ?_ ?_ ?_;rotate_left 3;(intro w_ hS_;have hk_:=hK w_ hS_;go_simp<;>first | with_reducible rfl | (constructor<;>with_reducible rfl));(intro w_ hS_;first | (go_at_call 89;refine (compare_is HQ _).mono ?_;rintro e w_ ⟨rfl,hb_⟩;refine ⟨?_,nx hS_ hb_⟩;with_reducible rfl));simp only [Act.put,sA,sB,sC]))
     intro w1 hb1
     go_wp2
     go_roundg ((lo+hi) / 2 - lo)
     case measure=>omega
     case rel=>exact ⟨lo,(lo+hi) / 2,rfl,by rw [hmd],by omega,by omega,Nat.le_refl _,nx hb hb1,I2.out⟩
  ·obtain rfl:hi=lo:=by omega
   have hz9:cnt=hi:=by rw [← HC.out];exact cntS_of (by rw [← HN.out];exact hin) I.out.a I.out.b
   have HZ:=lH hz9
   by_cases hh:hi<n
   ·have hhn:(hi:Int)<n:=by omega
    have hmid:hi<l.length:=by rw [← HN.out];exact hh
    rcases HE.out with ⟨e,_⟩ | ⟨b,off,rfl,hat⟩
    ·rw [e] at hmid;cases hmid
    ·obtain ⟨⟨s1,s2,s3,s4,s5,s6,s7⟩,hs⟩:∃ s,l[hi]'hmid=s:=⟨_,rfl⟩
     have hK:∀ u,Below W.heap.size W u→row u w.heap.size=#[.int .i64 t1,.int .i64 t2,.int .i64 t3,.int .i64 t4,.int .i64 t5,.int .i64 t6,.int .i64 t7]∧u.cell? ⟨b,off+hi*7,none⟩=some (.int .i64 s1)∧u.cell? ⟨b,off+hi*7+1,none⟩=some (.int .i64 s2)∧u.cell? ⟨b,off+hi*7+2,none⟩=some (.int .i64 s3)∧u.cell? ⟨b,off+hi*7+3,none⟩=some (.int .i64 s4)∧u.cell? ⟨b,off+hi*7+4,none⟩=some (.int .i64 s5)∧u.cell? ⟨b,off+hi*7+5,none⟩=some (.int .i64 s6)∧u.cell? ⟨b,off+hi*7+6,none⟩=some (.int .i64 s7):=by
      intro u hu
      refine ⟨by rw [(bcell hu).2.2.1 _ hz];exact HW.out,?_⟩
      have:=at7 (Lies.keep eS 54 hat (Keeps.of_below (nx hbW hu))) _ hmid
      rw [hs] at this
      exact this
     replace hK:=fun u h=>hK u (nx hb h)
     obtain ⟨q,hq⟩:∃ q,cmpI s1 t1=q:=⟨_,rfl⟩
     obtain ⟨f,hf⟩:∃ f,(q==0)=f:=⟨_,rfl⟩
     have HF:Hid (r=f):=lH (by
      rw [← HR.out,← hf]
      unfold atS
      rw [HC.out,hz9,List.getElem?_eq_getElem hmid,hs]
      have:=@cmpI_eq s1 t1
      rw [hq] at this
      rw [Bool.eq_iff_iff];simp [this])
     have HQ:=lH hq
     clear hq hat hs hz9
     go_wp2
     refine Rg.region (by kernel_rfl) (by kernel_rfl) (by kernel_rfl) (fun _ _ d _ _ h=>by cases d<;>exact h) _ rfl ?_
     repeat (first | (refine Rg.Seq.skip (by rfl) ?_;simp only [Act.put,sA,sB,sC]) | (refine Rg.Seq.pure (v:=?_) (by rfl) ?_ ?_;rotate_left;(intro w_ hS_;have hk_:=hK w_ hS_;go_simp<;>with_reducible rfl);simp only [Act.put,sA,sB,sC]) | (refine Rg.Seq.call (v:=?_) (f:=?_) (args:=?_) (by rfl) ?_ ?_ ?_;rotate_left 3;(intro w_ hS_;have hk_:=hK w_ hS_;go_simp<;>first | with_reducible rfl | (constructor<;>with_reducible rfl));(intro w_ hS_;first | (go_at_call 89;refine (compare_is HQ _).mono ?_;rintro e w_ ⟨rfl,hb_⟩;refine ⟨?_,nx hS_ hb_⟩;with_reducible rfl));simp only [Act.put,sA,sB,sC]))
     intro w1 hb1
     go_wp2
     go_ret2
     exact ⟨by (rw [HZ.out,HF.out])<;>rfl,nx hbW (nx hb hb1)⟩
   ·have hhn:¬ ((hi:Int)<n):=by omega
    have HF:Hid (r=false):=lH (by
     rw [← HR.out];unfold atS;rw [HC.out,hz9,List.getElem?_eq_none (by rw [← HN.out];omega)])
    clear hz9
    go_wp2
    refine Rg.region (by kernel_rfl) (by kernel_rfl) (by kernel_rfl) (fun _ _ d _ _ h=>by cases d<;>exact h) _ rfl ?_
    repeat (first | (refine Rg.Seq.skip (by rfl) ?_;simp only [Act.put,sA,sB,sC]) | (refine Rg.Seq.pure (v:=?_) (by rfl) ?_ ?_;rotate_left;(intro w_ hS_;obtain ⟨hc_,hf_⟩:=bcell hS_;go_simp<;>with_reducible rfl);simp only [Act.put,sA,sB,sC]))
    intro w1 hb1
    go_wp2
    go_ret2
    exact ⟨by (rw [HZ.out,HF.out])<;>rfl,nx hbW (nx hb hb1)⟩
end Go.Proofs.YtjhocpcpkemcaaaGreat.Se
