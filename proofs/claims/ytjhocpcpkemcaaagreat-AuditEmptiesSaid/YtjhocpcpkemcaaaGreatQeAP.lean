/- Orders and levels in memory; the document's own small functions of layer 8. -/
import Derived.Test.YtjhocpcpkemcaaaGreatQeZZ
import Derived.Test.YtjhocpcpkemcaaaGreatRows
import Derived.Test.YtjhocpcpkemcaaaGreatQeAM
import Derived.Test.YtjhocpcpkemcaaaGreatQeAA
import Derived.Test.YtjhocpcpkemcaaaGreatQeAJ
import Derived.Test.YtjhocpcpkemcaaaGreatQeAK
import Derived.Lib.Hide
import Derived.Deep.QuietTactic
import Derived.StillTailTactics
import Derived.Test.YtjhocpcpkemcaaaGreatQeAN
import Derived.OrdersHeld
import Derived.KernelRfl
import Derived.Below
set_option linter.unusedVariables false
set_option maxRecDepth 16000
set_option maxHeartbeats 32000000
namespace Go.Proofs.YtjhocpcpkemcaaaGreat.Le
open Go.RowKit
open Rw
open Da
theorem ret_bool {a b:Bool} (h:a=b):Ending.returned (.bool a)=.returned (.bool b):=by rw [h]
theorem ret_int {k:IntKind} {a b:Int} (h:a=b):Ending.returned (.int k a)=.returned (.int k b):=by rw [h]
theorem ret_v {a b:Value} (h:a=b):Ending.returned a=.returned b:=by rw [h]
def cellsO (o:Od):List Value:=[.int .i64 o.1,.int .i64 o.2.1,.int .i64 o.2.2.1,.int .i64 o.2.2.2.1,.int .i64 o.2.2.2.2]
def eO:Enc Od:=Enc.flat 5 cellsO (fun _=>rfl) (fun o u hu=>by simp [cellsO] at hu;rcases hu with rfl | rfl | rfl | rfl | rfl<;>rfl)
def eI:Enc Int:=Enc.flat 1 (fun x=>[.int .i64 x]) (fun _=>rfl) (fun o u hu=>by simp at hu;subst hu;rfl)
def eOs:Enc (List Od):=Enc.slice eO 74
def eL:Enc Lv:=Enc.both eI eOs
abbrev OL (B:Bs) (l:List Od) (v:Value) (w:World):Prop:=Is eO 74 B l v w
abbrev LL (B:Bs) (l:List Lv) (v:Value) (w:World):Prop:=Is eL 106 B l v w
theorem eL_cells {B:Bs} {v:Lv} {cs:List Value} {w:World} (h:eL.R B v cs w):∃ x,cs=[.int .i64 v.1,x]∧OL B v.2 x w:=by
 obtain ⟨c,d,rfl,rfl,x,rfl,hx⟩:=h
 exact ⟨x,rfl,hx⟩
theorem eL_mk {B:Bs} {p:Int} {os:List Od} {x:Value} {w:World} (h:OL B os x w):eL.R B (p,os) [.int .i64 p,x] w:=⟨[.int .i64 p],[x],rfl,rfl,x,rfl,h⟩
theorem typesL:106 ∉ eL.ts:=by decide
theorem typesO:74 ∉ eO.ts:=by decide
theorem at5 {B:Bs} {l:List Od} {b off:Nat} {w:World} (h:Lies eO 74 B l b off w) (i:Nat) (hi:i<l.length) :
  w.cell? ⟨b,off+i*5,none⟩=some (.int .i64 l[i].1)∧w.cell? ⟨b,off+i*5+1,none⟩=some (.int .i64 l[i].2.1)∧w.cell? ⟨b,off+i*5+2,none⟩=some (.int .i64 l[i].2.2.1)∧w.cell? ⟨b,off+i*5+3,none⟩=some (.int .i64 l[i].2.2.2.1)∧w.cell? ⟨b,off+i*5+4,none⟩=some (.int .i64 l[i].2.2.2.2):=by
 obtain ⟨cs,rfl,hu⟩:=h.at i hi
 exact ⟨hu 0 _ rfl,hu 1 _ rfl,hu 2 _ rfl,hu 3 _ rfl,hu 4 _ rfl⟩
theorem atL {B:Bs} {l:List Lv} {b off:Nat} {w:World} (h:Lies eL 106 B l b off w) (i:Nat) (hi:i<l.length) :
  ∃ x,w.cell? ⟨b,off+i*2,none⟩=some (.int .i64 l[i].1)∧w.cell? ⟨b,off+i*2+1,none⟩=some x∧OL B l[i].2 x w:=by
 obtain ⟨cs,hc,hu⟩:=h.at i hi
 obtain ⟨x,rfl,hx⟩:=eL_cells hc
 exact ⟨x,hu 0 _ rfl,hu 1 _ rfl,hx⟩
theorem fieldsO:Tryz.prog.underlying 74=some (.struct (Tryz.prog.fieldsOf 74)):=by kernel_rfl
def eqO (a b:Od):Bool:=decide (a=b)
theorem runO (a b c d e a' b' c' d' e':Int) (w:World):(Op.equalIn 10000 74 (.agg #[.int .i64 a,.int .i64 b,.int .i64 c,.int .i64 d,.int .i64 e]) (.agg #[.int .i64 a',.int .i64 b',.int .i64 c',.int .i64 d',.int .i64 e'])).run Tryz.prog w=.ok (eqO (a,b,c,d,e) (a',b',c',d',e')) w:=by
 rw [run_equalIn_agg w 9999 _ _ _ fieldsO (by kernel_rfl)]
 simp only [Program.fieldsOf,Tryz.underlying74]
 simp [Op.eqFields,go_sem]
 by_cases h1:a=a'<;>by_cases h2:b=b'<;>by_cases h3:c=c'<;>by_cases h4:d=d'<;>by_cases h5:e=e'<;>simp [eqO,h1,h2,h3,h4,h5]
theorem eqlO (a b c d e a' b' c' d' e':Int) (w:World):(binOp .eql 74 (.agg #[.int .i64 a,.int .i64 b,.int .i64 c,.int .i64 d,.int .i64 e]) (.agg #[.int .i64 a',.int .i64 b',.int .i64 c',.int .i64 d',.int .i64 e'])).run Tryz.prog w=.ok (.bool (eqO (a,b,c,d,e) (a',b',c',d',e'))) w:=by
 rw [run_eql_struct,runO];rfl
theorem neqO (a b c d e a' b' c' d' e':Int) (w:World):(binOp .neq 74 (.agg #[.int .i64 a,.int .i64 b,.int .i64 c,.int .i64 d,.int .i64 e]) (.agg #[.int .i64 a',.int .i64 b',.int .i64 c',.int .i64 d',.int .i64 e'])).run Tryz.prog w=.ok (.bool (!eqO (a,b,c,d,e) (a',b',c',d',e'))) w:=by
 rw [run_neq_struct,runO];rfl
theorem guardO (op:BinOp) (p q:Operand) (a b c d e a' b' c' d' e':Int) (w:World):(eqGuard op 74 p q (.agg #[.int .i64 a,.int .i64 b,.int .i64 c,.int .i64 d,.int .i64 e]) (.agg #[.int .i64 a',.int .i64 b',.int .i64 c',.int .i64 d',.int .i64 e'])).run Tryz.prog w=.ok () w :=
 run_eqGuard_agg w op _ p q _ _ (by kernel_rfl)
attribute [go_sem ↓] eqlO neqO guardO
section
variable (ρ:Operand→Value) (dst:Option Tmp) (ty:TypeId) (pos:String) (after:Array Edge) (guard:Option (Nat × Bool)) (w:World)
theorem loadO (x:Operand) (h:(rowOf w (ρ x)).size=5):(execOp ρ { dst,op:=.load 74 x,type:=ty,pos,after,guard }).run Tryz.prog w=.ok (.value (.agg (rowOf w (ρ x)))) w :=
 exec_load (n:=4) ρ dst ty pos after guard w Tryz.underlying74 rfl (by kernel_rfl) x h
theorem storeO (p x:Operand) (h:plainAt 5 w (ρ p)=true) (hs:(ρ x).cells.size=5) (h1:oneAll (ρ x)=true) (ha:ρ x=.agg (ρ x).cells):(execOp ρ { dst,op:=.store 74 p x,type:=ty,pos,after,guard }).run Tryz.prog w=.ok .skip (putRow w (ρ p) (ρ x).cells) :=
 exec_store (n:=4) ρ dst ty pos after guard w (by kernel_rfl) p x h hs h1 ha
end
theorem cells_agg (c:Array Value):(Value.agg c).cells=c:=rfl
theorem one5 (a b c d e:Int):oneAll (.agg #[.int .i64 a,.int .i64 b,.int .i64 c,.int .i64 d,.int .i64 e])=true:=by simp [oneAll,Value.cells,Value.oneCell']
theorem size5 (a b c d e:Value):(#[a,b,c,d,e]:Array Value).size=5:=rfl
attribute [go_sem ↓] loadO storeO
attribute [go_sem] cells_agg one5 size5
theorem ret_O2 {fn:Func} {p q:Tmp} (h:fn.results=#[.cell p 74,.tmp q]) (tmps:Array Value) (w:World) {cs:Array Value} (hs:cs.size=5) (hr:rowOf w (tmps.getD p undef)=cs):(results fn tmps).run Tryz.prog w=.ok (.tuple #[.agg cs,tmps.getD q undef]) w :=
 ret2 (n:=4) h Tryz.underlying74 rfl (by kernel_rfl) tmps w hs hr
theorem ret_OM {fn:Func} {p q r:Tmp} (h:fn.results=#[.tmp q,.cell p 74,.tmp r]) (tmps:Array Value) (w:World) {cs:Array Value} (hs:cs.size=5) (hr:rowOf w (tmps.getD p undef)=cs):(results fn tmps).run Tryz.prog w=.ok (.tuple #[tmps.getD q undef,.agg cs,tmps.getD r undef]) w :=
 retM (n:=4) h Tryz.underlying74 rfl (by kernel_rfl) tmps w hs hr
theorem rAhead_any (s a b:Int) (w:World):Calls Tryz.prog 172 #[.int .i64 s,.int .i64 a,.int .i64 b] w fun e w'=>e=.returned (.bool (ahead s a b))∧w=w':=by
 by_cases h:s=1
 ·have hd:(s==1)=true:=by simpa using h
  have H:Hid (ahead s a b=decide (b<a)):=lH (if_pos h)
  clear h
  go_enter Tryz.func172,Tryz.ntmps172
  go_wp2
  go_ret
  exact ⟨ret_bool H.out.symm,rfl⟩
 ·have hd:(s==1)=false:=by simpa using h
  have H:Hid (ahead s a b=decide (a<b)):=lH (if_neg h)
  clear h
  go_enter Tryz.func172,Tryz.ntmps172
  go_wp2
  go_ret
  exact ⟨ret_bool H.out.symm,rfl⟩
theorem rAhead_is {s a b:Int} {r:Bool} (h:Hid (ahead s a b=r)) (w:World):Calls Tryz.prog 172 #[.int .i64 s,.int .i64 a,.int .i64 b] w fun e w'=>e=.returned (.bool r)∧w=w':=by
 rw [← h.out];exact rAhead_any s a b w
theorem rOmay_any (a b c d e s:Int) (w:World):Calls Tryz.prog 173 #[.agg #[.int .i64 a,.int .i64 b,.int .i64 c,.int .i64 d,.int .i64 e],.int .i64 s] w fun r w'=>r=.returned (.bool (omay (a,b,c,d,e) s))∧Below w.heap.size w w':=by
 obtain ⟨q,hq⟩:∃ q,omay (a,b,c,d,e) s=q:=⟨_,rfl⟩
 rw [hq]
 have H:=lH hq
 clear hq
 go_enter Tryz.func173,Tryz.ntmps173
 go_wp2
 all_goals
  go_ret
  exact ⟨ret_bool (by rw [← H.out];unfold omay;rw [Bool.eq_iff_iff];simp;try omega),below1 _ _⟩
theorem rOmay_is {a b c d e s:Int} {r:Bool} (h:Hid (omay (a,b,c,d,e) s=r)) (w:World):Calls Tryz.prog 173 #[.agg #[.int .i64 a,.int .i64 b,.int .i64 c,.int .i64 d,.int .i64 e],.int .i64 s] w fun x w'=>x=.returned (.bool r)∧Below w.heap.size w w':=by
 rw [← h.out];exact rOmay_any a b c d e s w
theorem count_take {l:List Lv} {k:Nat} (h:k<l.length):(flat (l.take (k+1))).length=(flat (l.take k)).length+l[k].2.length:=by
 rw [take_snoc h,flat_app,List.length_append,flat_cons,flat_nil,List.append_nil]
theorem flat_take_le (l:List Lv) (k:Nat):(flat (l.take k)).length≤(flat l).length:=by
 conv=>rhs;rw [← List.take_append_drop k l]
 rw [flat_app,List.length_append];omega
theorem rCount_any (B:Bs) (l:List Lv) (v:Value) (w:World) (h:LL B l v w) (hm:l.length≤1000000) (hf:(flat l).length≤1000000) :
  Calls Tryz.prog 141 #[v] w fun e w'=>e=.returned (.int .i64 ((flat l).length:Nat))∧Below w.heap.size w w':=by
 rcases h.cases with ⟨rfl,a,c,rfl⟩ | ⟨hne,b,off,c,rfl,hat⟩
 ·clear h
  go_enter Tryz.func141,Tryz.ntmps141
  go_wp2
  go_loopw [3,8] (fun t i wr=>i=.int .i64 0∧t=.int .i64 0∧Below w.heap.size w wr) (fun _ i _=>0)
  case atStart=>exact ⟨rfl,rfl,Below.refl _ _⟩
  case round =>
   obtain ⟨rfl,rfl,hb⟩:=hrel
   go_wp2
   go_ret
   exact ⟨rfl,hb⟩
 ·have hbb:b<w.heap.size:=hat.1
  have HA:=lH hat
  have HF:=lH hf
  obtain ⟨n,hn⟩:∃ n,n=l.length:=⟨_,rfl⟩
  rw [← hn] at hm ⊢
  have HN:=lH hn
  clear h hat hn hne hf
  go_enter Tryz.func141,Tryz.ntmps141
  go_wp2
  go_loopw [3,8] (fun t i wr=>∃ k:Nat,k≤n∧i=.int .i64 k∧t=.int .i64 ((flat (l.take k)).length:Nat)∧Below w.heap.size w wr) (fun _ i _=>n - (intOf i).toNat)
  case atStart=>exact ⟨0,Nat.zero_le _,rfl,rfl,Below.refl _ _⟩
  case round =>
   obtain ⟨k,hk,rfl,rfl,hb⟩:=hrel
   by_cases hlt:k<n
   ·have hlt2:(k:Int)<n:=by omega
    have hkl:k<l.length:=by rw [← HN.out];exact hlt
    obtain ⟨x,q0,q1,hx⟩:=atL HA.out k hkl
    obtain ⟨a,cc,rfl⟩:=hx.len
    have ht:=count_take hkl
    have hle:=flat_take_le l (k+1)
    obtain ⟨m,hmm⟩:∃ m,l[k].2.length=m:=⟨_,rfl⟩
    rw [hmm] at ht q1
    have hs:(flat (l.take k)).length+m≤1000000:=by have:=HF.out;omega
    have HT:=lH ht
    obtain ⟨c1,f1,r1,p1⟩:=bcell hb
    clear ht hle hmm hx
    go_wp2
    go_roundw
    case rel=>exact ⟨k+1,by omega,by go_num,by rw [HT.out];go_num,nx hb (below1 _ _)⟩
    case measure=>simp [intOf];omega
   ·obtain rfl:k=n:=by omega
    have HZ:Hid ((flat (l.take k)).length=(flat l).length):=lH (by rw [HN.out,List.take_length])
    go_wp2
    go_ret
    exact ⟨ret_int (by rw [HZ.out]),hb⟩
def fV:Option Od→Value
 | some o=>.tuple #[.agg #[.int .i64 o.1,.int .i64 o.2.1,.int .i64 o.2.2.1,.int .i64 o.2.2.2.1,.int .i64 o.2.2.2.2],.bool true]
 | none=>.tuple #[.agg #[.int .i64 0,.int .i64 0,.int .i64 0,.int .i64 0,.int .i64 0],.bool false]
theorem drop_cons {α:Type} {l:List α} {k:Nat} (h:k<l.length):l.drop k=l[k] :: l.drop (k+1):=List.drop_eq_getElem_cons h
theorem flat_drop {l:List Lv} {k:Nat} (h:k<l.length):flat (l.drop k)=l[k].2++flat (l.drop (k+1)):=by rw [drop_cons h,flat_cons]
theorem fnd_drop {l m:List Od} {k:Nat} (h:k<l.length) (id:Int):fnd (l.drop k++m) id=if l[k].1=id then some l[k] else fnd (l.drop (k+1)++m) id:=by
 rw [drop_cons h,List.cons_append]
 unfold fnd
 rw [List.find?_cons]
 by_cases e:l[k].1=id
 ·rw [if_pos e];simp [hasId,e]
 ·rw [if_neg e]
  have:hasId id l[k]=false:=by simpa [hasId] using e
  rw [this]
theorem zero5 (w:World):(zeroValue 74).run Tryz.prog w=.ok (.agg #[.int .i64 0,.int .i64 0,.int .i64 0,.int .i64 0,.int .i64 0]) w:=by kernel_rfl
theorem rFind_any (B:Bs) (l:List Lv) (v:Value) (id:Int) (w:World) (h:LL B l v w) (hm:l.length≤1000000) (hf:(flat l).length≤1000000) :
  Calls Tryz.prog 142 #[v,.int .i64 id] w fun e w'=>e=.returned (fV (fnd (flat l) id))∧Below w.heap.size w w':=by
 rcases h.cases with ⟨rfl,a,c,rfl⟩ | ⟨hne,b,off,c,rfl,hat⟩
 ·clear h
  go_enter Tryz.func142,Tryz.ntmps142
  go_wp2
  go_loopw [12] (fun i wr=>i=.int .i64 0∧wr=w.alloc (.cells #[.int .i64 0,.int .i64 0,.int .i64 0,.int .i64 0,.int .i64 0] 74)) (fun i _=>0)
  case atStart=>exact ⟨rfl,rfl⟩
  case round =>
   obtain ⟨rfl,rfl⟩:=hrel
   go_wp2
   exact bodyPost_ret (v:=fV none) (by simp [results,Tryz.results142,go_sem,fV]) rfl ⟨rfl,(below1 _ _)⟩
 ·have hbb:b<w.heap.size:=hat.1
  have HA:=lH hat
  have HF:=lH hf
  obtain ⟨n,hn⟩:∃ n,n=l.length:=⟨_,rfl⟩
  obtain ⟨r,hr⟩:∃ r,fnd (flat l) id=r:=⟨_,rfl⟩
  rw [← hn] at hm ⊢
  rw [hr]
  have HN:=lH hn
  have HR:=lH hr
  clear h hat hn hne hf hr
  go_enter Tryz.func142,Tryz.ntmps142
  go_wp2
  obtain ⟨W,hW⟩:∃ W,W=w.alloc (.cells #[.int .i64 0,.int .i64 0,.int .i64 0,.int .i64 0,.int .i64 0] 74):=⟨_,rfl⟩
  have hbW:Below w.heap.size w W:=hW ▸ below1 w _
  have hz:w.heap.size<W.heap.size:=by rw [hW];simp
  have hbz:b<W.heap.size:=by omega
  have hpz:plain 5 W w.heap.size=true:=by rw [hW];simp [go_sem]
  have HW:=lH (Lies.keep eL 106 HA.out (Keeps.of_below hbW))
  rw [← hW]
  clear hW HA
  have HPz:=lH hpz
  clear hpz
  go_loopw [12] (fun i wr=>∃ k:Nat,k≤n∧i=.int .i64 k∧Below W.heap.size W wr∧fnd (flat (l.drop k)) id=r) (fun i _=>n - (intOf i).toNat)
  case atStart=>exact ⟨0,Nat.zero_le _,rfl,Below.refl _ _,HR.out⟩
  case round =>
   obtain ⟨wo,rfl⟩:∃ wo:World,wo=wr:=⟨_,rfl⟩
   obtain ⟨k,hk,rfl,hb,hrest⟩:=hrel
   have HT:=lH hrest
   clear hrest
   by_cases hlt:k<n
   ·have hlt2:(k:Int)<n:=by omega
    have hkl:k<l.length:=by rw [← HN.out];exact hlt
    obtain ⟨x,q0,q1,hx⟩:=atL HW.out k hkl
    have hx2:=Is.stays eO 74 hx hb
    obtain ⟨c1,f1,r1,p1⟩:=bcell hb
    have hfl:=flat_drop hkl
    obtain ⟨⟨pr,os⟩,hlk⟩:∃ y,l[k]=y:=⟨_,rfl⟩
    rw [hlk] at q0 hx2 hfl
    simp only at q0 hx2 hfl
    have hos:os.length≤1000000:=by
     have h1:=flat_take_le l (k+1)
     have h2:=count_take hkl
     rw [hlk] at h2
     simp only at h2
     have:=HF.out
     omega
    have HFl:Hid (fnd (os++flat (l.drop (k+1))) id=r):=lH (by rw [← hfl];exact HT.out)
    obtain ⟨a2,c2,rfl,hel⟩:=hx2
    have HE:=lH hel
    obtain ⟨m,hmm⟩:∃ m,m=os.length:=⟨_,rfl⟩
    rw [← hmm] at hos q1
    have HMm:=lH hmm
    clear hfl hlk hx hel hmm
    go_wp2
    obtain ⟨V,hV⟩:∃ V,V=wo.alloc (.cells #[.int .i64 pr,.slice a2 m c2] 106):=⟨_,rfl⟩
    have hbV:Below wo.heap.size wo V:=hV ▸ below1 wo _
    rw [← hV]
    clear hV c1 f1 r1 p1 q0 q1
    go_loopw [19] (fun i wr=>∃ j:Nat,j≤m∧i=.int .i64 j∧Below V.heap.size V wr∧fnd (os.drop j++flat (l.drop (k+1))) id=r) (fun i _=>m - (intOf i).toNat)
    case atStart=>exact ⟨0,Nat.zero_le _,rfl,Below.refl _ _,HFl.out⟩
    case round =>
     obtain ⟨j,hj,rfl,hbi,hrj⟩:=hrel
     have hbw:=nx hb (nx hbV hbi)
     by_cases hjm:j<m
     ·have hjm2:(j:Int)<m:=by omega
      have hjo:j<os.length:=by rw [← HMm.out];exact hjm
      rcases HE.out with ⟨e,_⟩ | ⟨b2,off2,rfl,hat2⟩
      ·rw [e] at hjo;cases hjo
      ·have hk:=nx hbV hbi
       have hat3:=Lies.keep eO 74 hat2 (Keeps.of_below hk)
       have hc5:=at5 hat3 j hjo
       have hb2:=hat3.1
       have hfd:=fnd_drop (m:=flat (l.drop (k+1))) hjo id
       obtain ⟨⟨o1,o2,o3,o4,o5⟩,ho⟩:∃ o,os[j]=o:=⟨_,rfl⟩
       rw [ho] at hc5 hfd
       simp only at hc5 hfd
       obtain ⟨s0,s1,s2,s3,s4⟩:=hc5
       rw [hfd] at hrj
       by_cases he:o1=id
       ·have hd:(o1==id)=true:=by simpa using he
        have HZ:Hid (r=some (o1,o2,o3,o4,o5)):=lH (by rw [← hrj,if_pos he])
        have hz2:w.heap.size<wr.heap.size:=by have:=hbw.size;omega
        have hpi:plain 5 wr w.heap.size=true:=by rw [(bcell hbw).2.2.2 _ _ hz];exact HPz.out
        clear hrj hfd ho hat2 hat3 he
        go_wp2
        refine bodyPost_ret (v:=fV (some (o1,o2,o3,o4,o5))) (ret_O2 Tryz.results142 _ _ rfl ?c1) rfl ⟨by rw [HZ.out],?c2⟩
        case c1=>exact (row_past _ _ _ (by rw [setRow_size];exact hz2)).trans (row_set _ hpi)
        case c2=>exact (below_setRow (nx hbW hbw) (Nat.le_refl _) _).alloc (by rw [setRow_size];omega) _
       ·have hd:(o1==id)=false:=by simpa using he
        have HRj:Hid (fnd (os.drop (j+1)++flat (l.drop (k+1))) id=r):=lH (by rw [← hrj,if_neg he])
        clear hrj hfd ho hat2 hat3 he
        go_wp2
        go_roundw
        case rel=>exact ⟨j+1,by omega,by go_num,nx hbi (below1 _ _),HRj.out⟩
        case measure=>simp [intOf];omega
     ·obtain rfl:j=m:=by omega
      have HRk:Hid (fnd (flat (l.drop (k+1))) id=r):=lH (by rw [← hrj,HMm.out,List.drop_length];rfl)
      clear hrj
      go_wp2
      go_roundw
      case rel=>exact ⟨k+1,by omega,by go_num,hbw,HRk.out⟩
      case measure=>simp [intOf];omega
   ·obtain rfl:k=n:=by omega
    have HZ:Hid (r=none):=lH (by rw [← HT.out,HN.out,List.drop_length];rfl)
    have hz2:w.heap.size<wo.heap.size:=by have:=hb.size;omega
    have hpr:plain 5 wo w.heap.size=true:=by rw [(bcell hb).2.2.2 _ _ hz];exact HPz.out
    go_wp2
    refine bodyPost_ret (v:=fV none) (ret_O2 Tryz.results142 _ _ rfl ?c3) rfl ⟨by rw [HZ.out],?c4⟩
    case c3=>exact row_set _ hpr
    case c4=>exact below_setRow (nx hbW hb) (Nat.le_refl _) _
theorem rBest_any (B:Bs) (l:List Lv) (v:Value) (w:World) (h:LL B l v w) (hm:l.length≤1000000) (hf:(flat l).length≤1000000) :
  Calls Tryz.prog 116 #[v] w fun e w'=>e=.returned (fV ((flat l).head?))∧Below w.heap.size w w':=by
 rcases h.cases with ⟨rfl,a,c,rfl⟩ | ⟨hne,b,off,c,rfl,hat⟩
 ·clear h
  go_enter Tryz.func116,Tryz.ntmps116
  go_wp2
  go_loopw [10] (fun i wr=>i=.int .i64 0∧wr=w.alloc (.cells #[.int .i64 0,.int .i64 0,.int .i64 0,.int .i64 0,.int .i64 0] 74)) (fun i _=>0)
  case atStart=>exact ⟨rfl,rfl⟩
  case round =>
   obtain ⟨rfl,rfl⟩:=hrel
   go_wp2
   exact bodyPost_ret (v:=fV none) (by simp [results,Tryz.results116,go_sem,fV]) rfl ⟨rfl,(below1 _ _)⟩
 ·have hbb:b<w.heap.size:=hat.1
  have HA:=lH hat
  have HF:=lH hf
  obtain ⟨n,hn⟩:∃ n,n=l.length:=⟨_,rfl⟩
  obtain ⟨r,hr⟩:∃ r,(flat l).head?=r:=⟨_,rfl⟩
  rw [← hn] at hm ⊢
  rw [hr]
  have HN:=lH hn
  have HR:=lH hr
  clear h hat hn hne hf hr
  go_enter Tryz.func116,Tryz.ntmps116
  go_wp2
  obtain ⟨W,hW⟩:∃ W,W=w.alloc (.cells #[.int .i64 0,.int .i64 0,.int .i64 0,.int .i64 0,.int .i64 0] 74):=⟨_,rfl⟩
  have hbW:Below w.heap.size w W:=hW ▸ below1 w _
  have hz:w.heap.size<W.heap.size:=by rw [hW];simp
  have hbz:b<W.heap.size:=by omega
  have hpz:plain 5 W w.heap.size=true:=by rw [hW];simp [go_sem]
  have HW:=lH (Lies.keep eL 106 HA.out (Keeps.of_below hbW))
  rw [← hW]
  clear hW HA
  have HPz:=lH hpz
  clear hpz
  go_loopw [10] (fun i wr=>∃ k:Nat,k≤n∧i=.int .i64 k∧Below W.heap.size W wr∧(flat (l.drop k)).head?=r) (fun i _=>n - (intOf i).toNat)
  case atStart=>exact ⟨0,Nat.zero_le _,rfl,Below.refl _ _,HR.out⟩
  case round =>
   obtain ⟨wo,rfl⟩:∃ wo:World,wo=wr:=⟨_,rfl⟩
   obtain ⟨k,hk,rfl,hb,hrest⟩:=hrel
   have HT:=lH hrest
   clear hrest
   by_cases hlt:k<n
   ·have hlt2:(k:Int)<n:=by omega
    have hkl:k<l.length:=by rw [← HN.out];exact hlt
    obtain ⟨x,q0,q1,hx⟩:=atL HW.out k hkl
    have hx2:=Is.stays eO 74 hx hb
    obtain ⟨c1,f1,r1,p1⟩:=bcell hb
    have hfl:=flat_drop hkl
    obtain ⟨⟨pr,os⟩,hlk⟩:∃ y,l[k]=y:=⟨_,rfl⟩
    rw [hlk] at q0 hx2 hfl
    simp only at q0 hx2 hfl
    have hos:os.length≤1000000:=by
     have h1:=flat_take_le l (k+1)
     have h2:=count_take hkl
     rw [hlk] at h2
     simp only at h2
     have:=HF.out
     omega
    have HFl:Hid ((os++flat (l.drop (k+1))).head?=r):=lH (by rw [← hfl];exact HT.out)
    obtain ⟨a2,c2,rfl,hel⟩:=hx2
    have HE:=lH hel
    obtain ⟨m,hmm⟩:∃ m,m=os.length:=⟨_,rfl⟩
    rw [← hmm] at hos q1
    have HMm:=lH hmm
    clear hfl hlk hx hel hmm
    go_wp2
    obtain ⟨V,hV⟩:∃ V,V=wo.alloc (.cells #[.int .i64 pr,.slice a2 m c2] 106):=⟨_,rfl⟩
    have hbV:Below wo.heap.size wo V:=hV ▸ below1 wo _
    rw [← hV]
    clear hV c1 f1 r1 p1 q0 q1
    go_loopw [17] (fun i wr=>∃ j:Nat,j≤m∧i=.int .i64 j∧Below V.heap.size V wr∧(os.drop j++flat (l.drop (k+1))).head?=r) (fun i _=>m - (intOf i).toNat)
    case atStart=>exact ⟨0,Nat.zero_le _,rfl,Below.refl _ _,HFl.out⟩
    case round =>
     obtain ⟨j,hj,rfl,hbi,hrj⟩:=hrel
     have hbw:=nx hb (nx hbV hbi)
     by_cases hjm:j<m
     ·have hjm2:(j:Int)<m:=by omega
      have hjo:j<os.length:=by rw [← HMm.out];exact hjm
      rcases HE.out with ⟨e,_⟩ | ⟨b2,off2,rfl,hat2⟩
      ·rw [e] at hjo;cases hjo
      ·have hk:=nx hbV hbi
       have hat3:=Lies.keep eO 74 hat2 (Keeps.of_below hk)
       have hc5:=at5 hat3 j hjo
       have hb2:=hat3.1
       obtain ⟨⟨o1,o2,o3,o4,o5⟩,ho⟩:∃ o,os[j]=o:=⟨_,rfl⟩
       rw [drop_cons hjo,ho,List.cons_append,List.head?_cons] at hrj
       rw [ho] at hc5
       simp only at hc5
       obtain ⟨s0,s1,s2,s3,s4⟩:=hc5
       have HZ:Hid (r=some (o1,o2,o3,o4,o5)):=lH hrj.symm
       have hz2:w.heap.size<wr.heap.size:=by have:=hbw.size;omega
       have hpi:plain 5 wr w.heap.size=true:=by rw [(bcell hbw).2.2.2 _ _ hz];exact HPz.out
       clear hrj ho hat2 hat3
       go_wp2
       refine bodyPost_ret (v:=fV (some (o1,o2,o3,o4,o5))) (ret_O2 Tryz.results116 _ _ rfl ?c1) rfl ⟨by rw [HZ.out],?c2⟩
       case c1=>exact (row_past _ _ _ (by rw [setRow_size];exact hz2)).trans (row_set _ hpi)
       case c2=>exact (below_setRow (nx hbW hbw) (Nat.le_refl _) _).alloc (by rw [setRow_size];omega) _
     ·obtain rfl:j=m:=by omega
      have HRk:Hid ((flat (l.drop (k+1))).head?=r):=lH (by rw [← hrj,HMm.out,List.drop_length];rfl)
      clear hrj
      go_wp2
      go_roundw
      case rel=>exact ⟨k+1,by omega,by go_num,hbw,HRk.out⟩
      case measure=>simp [intOf];omega
   ·obtain rfl:k=n:=by omega
    have HZ:Hid (r=none):=lH (by rw [← HT.out,HN.out,List.drop_length];rfl)
    have hz2:w.heap.size<wo.heap.size:=by have:=hb.size;omega
    have hpr:plain 5 wo w.heap.size=true:=by rw [(bcell hb).2.2.2 _ _ hz];exact HPz.out
    go_wp2
    refine bodyPost_ret (v:=fV none) (ret_O2 Tryz.results116 _ _ rfl ?c3) rfl ⟨by rw [HZ.out],?c4⟩
    case c3=>exact row_set _ hpr
    case c4=>exact below_setRow (nx hbW hb) (Nat.le_refl _) _
def Post (F:Value→World→Prop) (w:World) (e:Ending) (w':World):Prop:=∃ v,e=.returned v∧Below w.heap.size w w'∧F v w'
theorem infoO:(Tryz.prog.info? 74).map (fun i=>(i.zero,i.size,i.bytes))=some (some (.agg #[.int .i64 0,.int .i64 0,.int .i64 0,.int .i64 0,.int .i64 0]),5,40):=by kernel_rfl
theorem infoL:(Tryz.prog.info? 106).map (fun i=>(i.zero,i.size,i.bytes))=some (some (.agg #[.int .i64 0,.slice none 0 0]),2,32):=by kernel_rfl
theorem elemO:Elem Tryz.prog 71 74 eO.k 40:=elem_of Tryz.underlying71 infoO rfl (by decide)
theorem elemL:Elem Tryz.prog 55 106 eL.k 32:=elem_of Tryz.underlying55 infoL rfl (by decide)
abbrev OwnO (B:Bs) (Bo:Nat) (l:List Od) (v:Value) (w:World):Prop:=Own eO 74 B Bo l v w
theorem flat_take_snoc {l:List Lv} {k:Nat} (h:k<l.length):flat (l.take (k+1))=flat (l.take k)++l[k].2:=by
 rw [take_snoc h,flat_app,flat_cons,flat_nil,List.append_nil]
theorem rOrders_any (B:Bs) (l:List Lv) (v:Value) (w:World) (h:LL B l v w) (hB:B.le w.heap.size) (hm:l.length≤1000000) (hf:(flat l).length≤1000000) :
  Calls Tryz.prog 73 #[v] w (Post (OL B (flat l)) w):=by
 rcases h.cases with ⟨rfl,a,c,rfl⟩ | ⟨hne,b,off,c,rfl,hat⟩
 ·clear h
  go_enter Tryz.func73,Tryz.ntmps73
  go_wp2
  go_loopw [3,8] (fun t i wr=>i=.int .i64 0∧t=.slice none 0 0∧Below w.heap.size w wr) (fun _ i _=>0)
  case atStart=>exact ⟨rfl,rfl,Below.refl _ _⟩
  case round =>
   obtain ⟨rfl,rfl,hb⟩:=hrel
   go_wp2
   go_ret
   exact ⟨_,rfl,hb,Is.nil _ _ _ _⟩
 ·have hbb:b<w.heap.size:=hat.1
  have HA:=lH hat
  have HF:=lH hf
  obtain ⟨n,hn⟩:∃ n,n=l.length:=⟨_,rfl⟩
  rw [← hn] at hm ⊢
  have HN:=lH hn
  clear h hat hn hne hf
  go_enter Tryz.func73,Tryz.ntmps73
  go_wp2
  go_loopw [3,8] (fun t i wr=>∃ k:Nat,k≤n∧i=.int .i64 k∧Below w.heap.size w wr∧OwnO B w.heap.size (flat (l.take k)) t wr) (fun _ i _=>n - (intOf i).toNat)
  case atStart=>exact ⟨0,Nat.zero_le _,rfl,Below.refl _ _,Own.nil _ _ _⟩
  case round =>
   obtain ⟨k,hk,rfl,hb,hown⟩:=hrel
   have HO:=lH hown
   clear hown
   by_cases hlt:k<n
   ·have hlt2:(k:Int)<n:=by omega
    have hkl:k<l.length:=by rw [← HN.out];exact hlt
    obtain ⟨x,q0,q1,hx⟩:=atL HA.out k hkl
    obtain ⟨c1,f1,r1,p1⟩:=bcell hb
    obtain ⟨⟨pr,os⟩,hlk⟩:∃ y,l[k]=y:=⟨_,rfl⟩
    have ht:=flat_take_snoc hkl
    have hle:=flat_take_le l (k+1)
    rw [hlk] at q0 hx ht
    simp only at q0 hx ht
    have HT:=lH ht
    have hs:(flat (l.take k)).length+os.length≤1000000:=by rw [ht,List.length_append] at hle;have:=HF.out;omega
    clear ht hle hlk
    obtain ⟨a2,c2,rfl⟩:=hx.len
    obtain ⟨V,hV⟩:∃ V,V=wr.alloc (.cells #[.int .i64 pr,.slice a2 os.length c2] 106):=⟨_,rfl⟩
    have hbV:Below wr.heap.size wr V:=hV ▸ below1 wr _
    have hsz:=hb.size
    have hzV:wr.heap.size<V.heap.size:=by rw [hV];simp
    have hbw:=nx hb hbV
    have HX:=lH (Is.stays eO 74 (Is.stays eO 74 hx hb) hbV)
    obtain ⟨v2,w2,hrun,hown2,_,hbl,_⟩:=Own.append elemO 71 typesO hB (by omega) (HO.out.stays hbV) HX.out (by omega)  (by omega)
    have HO3:Hid (OwnO B w.heap.size (flat (l.take (k+1))) v2 w2):=lH (by rw [HT.out];exact hown2)
    have hb2:=hbl _ _ (Nat.le_refl _) hbw
    rw [hV] at hrun
    clear hown2 hbl hV
    go_wp2
    go_roundw
    case rel=>exact ⟨k+1,by omega,by go_num,hb2,HO3.out⟩
    case measure=>simp [intOf];omega
   ·obtain rfl:k=n:=by omega
    have e1:l.take k=l:=by rw [HN.out,List.take_length]
    have ho:=HO.out
    rw [e1] at ho
    have HZ:=lH ho
    clear ho e1
    go_wp2
    go_ret
    exact ⟨_,rfl,hb,HZ.out.is (by decide) hB⟩
end Go.Proofs.YtjhocpcpkemcaaaGreat.Le
namespace Go.Proofs.YtjhocpcpkemcaaaGreat.Rh
open Go.RowKit
section
variable {P:Program} {ops:Array Oper} {Q:Exit→Act→World→Prop} {md:Region.Mode}
def Stays (S:World→Prop):Prop:=∀ w w',S w→Below w.heap.size w w'→S w'
theorem Stays.below (W:World):Stays (fun w=>Below W.heap.size W w):=fun _ _ h k=>h.trans (k.mono h.size)
theorem Stays.and {S T:World→Prop} (h:Stays S) (k:Stays T):Stays (fun w=>S w∧T w):=fun w w' x b=>⟨h w w' x.1 b,k w w' x.2 b⟩
def Gives (P:Program) (w0:World) (v:Value):Result Next→Prop
 | .ok (.value u) w=>u=v∧Below w0.heap.size w0 w
 | .ok .skip w=>v=undef∧Below w0.heap.size w0 w
 | .ok (.enter f args) w=>Calls P f args w fun e w'=>e=.returned v∧Below w0.heap.size w0 w'
 | _=>False
def GivesIf (P:Program) (ops:Array Oper) (S:World→Prop) (o:Oper) (v:Value) (a:Act):Prop :=
 (Region.wanted o (yielded ops a.tmps)=true∧∀ w,S w→Gives P w v ((execOp a.eval o).run P w))∨(Region.wanted o (yielded ops a.tmps)=false∧v=undef)
theorem GivesIf.same {S:World→Prop} {o:Oper} {v:Value} {a a':Act} (h:GivesIf P ops S o v a) (he:execOp a'.eval o=execOp a.eval o) (hw:Region.wanted o (yielded ops a'.tmps)=Region.wanted o (yielded ops a.tmps)):GivesIf P ops S o v a':=by
 unfold GivesIf;rw [he,hw];exact h
theorem GivesIf.less {S S':World→Prop} {o:Oper} {v:Value} {a:Act} (h:GivesIf P ops S o v a) (k:∀ w,S' w→S w):GivesIf P ops S' o v a :=
 h.imp (fun ⟨x,y⟩=>⟨x,fun w hw=>y w (k w hw)⟩) id
theorem GivesIf.op {S:World→Prop} {i:Nat} {o:Oper} {v:Value} {a:Act} (hi:ops[i]?=some o) (h:GivesIf P ops S o v a) {K:Act→World→Prop} {w:World} (hS:S w) (hK:∀ w',Below w.heap.size w w'→K (a.put o.dst v) w'):wpOp P ops Q i K a w:=by
 unfold wpOp
 simp only [hi]
 rcases h with ⟨hw,hg⟩ | ⟨hw,rfl⟩
 ·rw [if_pos hw]
  refine .inl ?_
  have g:=hg w hS
  unfold Oper.wp
  generalize (execOp a.eval o).run P w=r at g
  match r,g with
  | .ok (.value _) w',g=>obtain ⟨rfl,g2⟩:=g;exact hK _ g2
  | .ok .skip w',g=>obtain ⟨rfl,g2⟩:=g;exact hK _ g2
  | .ok (.enter f args) w',g =>
   refine Calls.mono g fun e w'' he=>?_
   obtain ⟨rfl,g2⟩:=he
   exact hK _ g2
 ·rw [if_neg (by rw [hw];decide)];exact hK _ (Below.refl _ _)
theorem op_apart {j:Nat} {oi oj:Oper} {v:Value} (hj:ops[j]?=some oj) (hap:oi.apart ops oj=true) (hsj:∀ cs b,oj.op≠.select cs b) (hQ:∀ c a d v w,Q (.panic c) (Act.put a d v) w→Q (.panic c) a w)
  {K:Act→World→Prop} {a:Act} {w:World} (h:wpOp P ops Q j K (a.put oi.dst v) w) :
  wpOp P ops Q j (fun a' w'=>(∃ u ds,a'=({ a with defers:=ds }:Act).put oj.dst u)∧K (a'.put oi.dst v) w') a w:=by
 obtain ⟨h1,h2,_⟩:=Oper.apart_spec hap
 have turn:∀ (b:Act) (u:Value),(b.put oi.dst v).put oj.dst u=(b.put oj.dst u).put oi.dst v:=fun b u=>Act.put_comm b v u h2
 have wd:=wanted_put (ops:=ops) oj a oi.dst v h1
 have ex:=execOp_put (ops:=ops) oj hsj a oi.dst v h1
 simp only [wpOp,hj] at h ⊢
 rw [wd] at h
 by_cases hw:Region.wanted oj (yielded ops a.tmps)=true
 ·rw [if_pos hw] at h ⊢
  rcases h with h | ⟨k,l⟩
  ·refine .inl ?_
   unfold Oper.wp at h ⊢
   rw [ex] at h
   match (execOp a.eval oj).run P w,h with
   | .ok (.value u) w',h=>exact ⟨⟨u,a.defers,rfl⟩,turn a u ▸ h⟩
   | .ok .skip w',h=>exact ⟨⟨undef,a.defers,rfl⟩,turn a undef ▸ h⟩
   | .ok (.defer d) w',h =>
    refine ⟨⟨undef,d :: a.defers,rfl⟩,?_⟩
    rw [← turn,← Act.put_defers];exact h
   | .ok (.enter f args) w',h =>
    refine Calls.mono h fun e w'' he=>?_
    match e,he with
    | .returned u,he=>exact ⟨⟨u,a.defers,rfl⟩,turn a u ▸ he⟩
    | .panicked c,he=>exact hQ _ _ _ _ _ he
    | .outgrown,he=>exact he
   | .ok (.row row args) w',h=>exact Rows.mono h fun u w'' he=>⟨⟨u,a.defers,rfl⟩,turn a u ▸ he⟩
   | .halt (.panic u) w',h=>exact hQ _ _ _ _ _ h
  ·refine .inr ⟨?_,l⟩
   unfold Oper.asks at k ⊢
   rw [ex] at k;exact k
 ·rw [if_neg hw] at h ⊢
  exact ⟨⟨undef,a.defers,rfl⟩,turn a undef ▸ h⟩
def Any (P:Program) (md:Region.Mode) (ops:Array Oper) (Q:Exit→Act→World→Prop) (S:World→Prop):Nat→Array Bool→Act→(World→Prop)→Prop
 | 0,listed,a,G=>Region.ready md ops listed=[]∧∀ w,S w→G w→Q .normal a w
 | n+1,listed,a,G=>(Region.ready md ops listed=[]→∀ w,S w→G w→Q .normal a w) ∧
  ∀ i∈Region.ready md ops listed,∀ w,S w→G w→wpOp P ops Q i (fun a' w'=>∃ G':World→Prop,Stays G'∧S w'∧G' w'∧Any P md ops Q S n (listed.setIfInBounds i true) a' G') a w
theorem Any.any {S:World→Prop}:∀ (n:Nat) (listed:Array Bool) (a:Act) (G:World→Prop) (w:World),S w→G w→Any P md ops Q S n listed a G→wpAny P md ops Q n listed a w
 | 0,_,_,_,w,hS,hG,h=>⟨h.1,h.2 w hS hG⟩
 | n+1,_,_,_,w,hS,hG,h=>⟨fun e=>h.1 e w hS hG,fun i hi=>wpOp_mono (fun a' w' ⟨G',_,k1,k2,k3⟩=>Any.any n _ a' G' w' k1 k2 k3) (h.2 i hi w hS hG)⟩
theorem Any.first {S:World→Prop} {i:Nat} {oi:Oper} {v:Value} (hi:ops[i]?=some oi) (hs:Region.noSelect ops=true) (hQ:∀ c a d v w,Q (.panic c) (Act.put a d v) w→Q (.panic c) a w) (sS:Stays S) :
  ∀ (n:Nat) (listed:Array Bool) (a:Act) (G:World→Prop),Stays G→(∀ j oj,ops[j]?=some oj→j≠i→listed.getD j true=false→(∀ e∈oj.after,Region.binds md e=true→e.on≠i)→oi.apart ops oj=true) →
   i∈Region.ready md ops listed→GivesIf P ops S oi v a→Any P md ops Q S n (listed.setIfInBounds i true) (a.put oi.dst v) G→Any P md ops Q S (n+1) listed a G:=by
 have sel:=Region.noSelect_spec hs
 intro n
 induction n with
 | zero =>
  intro listed a G st _ hr hg H
  refine ⟨fun e=>absurd hr (by rw [e];exact List.not_mem_nil),fun j hj w hw hGw=>?_⟩
  by_cases e:j=i
  ·subst e;exact hg.op hi hw fun w' hw'=>⟨G,st,sS _ _ hw hw',st _ _ hGw hw',H⟩
  ·exact absurd (ready_mono hj e) (by rw [H.1];exact List.not_mem_nil)
 | succ n ih =>
  intro listed a G st hfree hr hg H
  refine ⟨fun e=>absurd hr (by rw [e];exact List.not_mem_nil),fun j hj w hw hGw=>?_⟩
  by_cases e:j=i
  ·subst e;exact hg.op hi hw fun w' hw'=>⟨G,st,sS _ _ hw hw',st _ _ hGw hw',H⟩
  ·obtain ⟨jun,oj,hoj,hall⟩:=mem_ready.1 hj
   have hno:∀ x∈oj.after,Region.binds md x=true→x.on≠i:=fun x hx hb hxi=>by
    have k1:=hall x hx hb
    have k0:=(mem_ready.1 hr).1
    rw [hxi] at k1
    by_cases hlt:i<listed.size
    ·rw [Array.getD_eq_getD_getElem?,Array.getElem?_eq_getElem hlt] at k0 k1
     rw [Option.getD_some] at k0 k1
     rw [k0] at k1;exact absurd k1 (by decide)
    ·rw [Array.getD_eq_getD_getElem?,Array.getElem?_eq_none (by omega)] at k1
     exact absurd k1 (by decide)
   have hap:=hfree j oj hoj e jun hno
   obtain ⟨_,_,h3⟩:=Oper.apart_spec hap
   refine wpOp_mono (fun a' w' k=>?_) (op_apart hoj hap (fun cs b=>sel j oj cs b hoj) hQ (H.2 j (ready_mono hj e) w hw hGw))
   obtain ⟨⟨u,ds,rfl⟩,G',st',kS,kG,kA⟩:=k
   refine ⟨G',st',kS,kG,ih (listed.setIfInBounds j true) _ G' st' (fun k ok hk hki hun hno'=>?_) (ready_mono hr (Ne.symm e)) ?_ ?_⟩
   ·refine hfree k ok hk hki ?_ hno'
    by_cases hjk:j=k
    ·subst hjk;exact jun
    ·rw [getD_set_ne true hjk] at hun;exact hun
   ·refine hg.same ?_ ?_
    ·rw [execOp_put (ops:=ops) oi (fun cs b=>sel i oi cs b hi) _ oj.dst u h3];rfl
    ·rw [wanted_put (ops:=ops) oi _ oj.dst u h3]
   ·rw [Array.setIfInBounds_comm _ _ e];exact kA
def Steps (P:Program) (md:Region.Mode) (ops:Array Oper) (Q:Exit→Act→World→Prop) (S:World→Prop) (ord:List Nat) (listed:Array Bool) (a:Act) (G:World→Prop):Prop :=
 Region.noSelect ops=true→(∀ c a d v w,Q (.panic c) (Act.put a d v) w→Q (.panic c) a w)→Stays S→Stays G→Any P md ops Q S ord.length listed a G
def One (P:Program) (md:Region.Mode) (ops:Array Oper) (Q:Exit→Act→World→Prop) (S:World→Prop) (i:Nat) (ord:List Nat) (listed:Array Bool) (a:Act) (G:World→Prop):Prop :=
 Region.noSelect ops=true→(∀ c a d v w,Q (.panic c) (Act.put a d v) w→Q (.panic c) a w)→Stays S→Stays G →
  ∀ w,S w→G w→wpOp P ops Q i (fun a' w'=>∃ G':World→Prop,Stays G'∧S w'∧G' w'∧Any P md ops Q S ord.length (listed.setIfInBounds i true) a' G') a w
def nth:List Oper→Nat→Option Oper
 | [],_=>none
 | o :: _,0=>some o
 | _ :: l,n+1=>nth l n
theorem nth_eq (l:List Oper) (n:Nat):nth l n=l[n]?:=by
 induction l generalizing n with
 | nil=>rfl
 | cons o l ih=>cases n with
  | zero=>rfl
  | succ n=>rw [nth,ih];rfl
theorem nth_at {ops:Array Oper} {i:Nat} {o:Oper} (h:nth ops.toList i=some o):ops[i]?=some o:=by
 rw [nth_eq] at h;simpa using h
variable {i j:Nat} {o:Oper} {ord:List Nat} {listed:Array Bool} {a:Act} {S G:World→Prop} {v:Value} {f:FuncId} {args:Array Value}
theorem Steps.nil (hr:Region.ready md ops listed=[]) (h:∀ w,S w→G w→Q .normal a w):Steps P md ops Q S [] listed a G:=fun _ _ _ _=>⟨hr,h⟩
def mayFirst (md:Region.Mode) (ops:Array Oper) (listed:Array Bool) (i:Nat):Bool:=Region.free md ops listed i&&(Region.ready md ops listed).contains i
theorem Steps.free (hi:nth ops.toList i=some o) (hf:mayFirst md ops listed i=true) (hg:GivesIf P ops S o v a) (h:Steps P md ops Q S ord (listed.setIfInBounds i true) (a.put o.dst v) G):Steps P md ops Q S (i :: ord) listed a G:=fun hs hQ sS st=>by
 rw [mayFirst,Bool.and_eq_true] at hf
 exact Any.first (nth_at hi) hs hQ sS ord.length listed a G st (Region.free_spec (nth_at hi) hf.1) (by simpa using hf.2) hg (h hs hQ sS st)
theorem Steps.skip (hi:nth ops.toList i=some o) (hf:mayFirst md ops listed i=true) (hw:Region.wanted o (yielded ops a.tmps)=false) (h:Steps P md ops Q S ord (listed.setIfInBounds i true) (a.put o.dst undef) G):Steps P md ops Q S (i :: ord) listed a G :=
 Steps.free hi hf (.inr ⟨hw,rfl⟩) h
theorem Steps.pure (hi:nth ops.toList i=some o) (hf:mayFirst md ops listed i=true) (hw:Region.wanted o (yielded ops a.tmps)=true) (hv:∀ w,S w→(execOp a.eval o).run P w=.ok (.value v) w) (h:Steps P md ops Q S ord (listed.setIfInBounds i true) (a.put o.dst v) G):Steps P md ops Q S (i :: ord) listed a G :=
 Steps.free hi hf (.inl ⟨hw,fun w hS=>by rw [hv w hS];exact ⟨rfl,Below.refl _ _⟩⟩) h
theorem Steps.call (hi:nth ops.toList i=some o) (hf:mayFirst md ops listed i=true) (hw:Region.wanted o (yielded ops a.tmps)=true) (hv:∀ w,S w→(execOp a.eval o).run P w=.ok (.enter f args) w)
  (hc:∀ w,S w→Calls P f args w fun e w'=>e=.returned v∧Below w.heap.size w w') (h:Steps P md ops Q S ord (listed.setIfInBounds i true) (a.put o.dst v) G):Steps P md ops Q S (i :: ord) listed a G :=
 Steps.free hi hf (.inl ⟨hw,fun w hS=>by rw [hv w hS];exact hc w hS⟩) h
theorem Steps.sk (h:Steps P md ops Q S ord (listed.setIfInBounds i true) (a.put o.dst undef) G) (hi:nth ops.toList i=some o:=by rfl) (hf:mayFirst md ops listed i=true:=by kernel_rfl) (hw:Region.wanted o (yielded ops a.tmps)=false:=by rfl):Steps P md ops Q S (i :: ord) listed a G:=Steps.skip hi hf hw h
theorem Steps.pu (hv:∀ w,S w→(execOp a.eval o).run P w=.ok (.value v) w) (h:Steps P md ops Q S ord (listed.setIfInBounds i true) (a.put o.dst v) G) (hi:nth ops.toList i=some o:=by rfl) (hf:mayFirst md ops listed i=true:=by kernel_rfl) (hw:Region.wanted o (yielded ops a.tmps)=true:=by rfl):Steps P md ops Q S (i :: ord) listed a G:=Steps.pure hi hf hw hv h
theorem Steps.ca (hv:∀ w,S w→(execOp a.eval o).run P w=.ok (.enter f args) w) (hc:∀ w,S w→Calls P f args w fun e w'=>e=.returned v∧Below w.heap.size w w') (h:Steps P md ops Q S ord (listed.setIfInBounds i true) (a.put o.dst v) G) (hi:nth ops.toList i=some o:=by rfl) (hf:mayFirst md ops listed i=true:=by kernel_rfl) (hw:Region.wanted o (yielded ops a.tmps)=true:=by rfl):Steps P md ops Q S (i :: ord) listed a G:=Steps.call hi hf hw hv hc h
theorem Steps.forced (hr:Region.ready md ops listed=[i]) (h:One P md ops Q S i ord listed a G):Steps P md ops Q S (i :: ord) listed a G:=fun hs hQ sS st =>
 ⟨fun e=>absurd hr (by rw [e];exact fun x=>by cases x),fun k hk=>by rw [hr] at hk;simp at hk;subst hk;exact h hs hQ sS st⟩
theorem One.call (F:Value→World→Prop) (hF:∀ v,Stays (F v)) (hi:nth ops.toList i=some o) (hw:Region.wanted o (yielded ops a.tmps)=true) (hv:∀ w,S w→G w→(execOp a.eval o).run P w=.ok (.enter f args) w)
  (hc:∀ w,S w→G w→Calls P f args w fun e w'=>∃ v,e=.returned v∧Below w.heap.size w w'∧F v w')
  (h:∀ v u,F v u→Steps P md ops Q S ord (listed.setIfInBounds i true) (a.put o.dst v) (fun w=>G w∧F v w)):One P md ops Q S i ord listed a G:=fun hs hQ sS st w hS hG=>by
 unfold wpOp
 simp only [nth_at hi]
 rw [if_pos hw]
 refine .inl ?_
 unfold Oper.wp
 rw [hv w hS hG]
 refine Calls.mono (hc w hS hG) fun e w' he=>?_
 obtain ⟨v,rfl,hb,hFv⟩:=he
 exact ⟨_,st.and (hF v),sS _ _ hS hb,⟨st _ _ hG hb,hFv⟩,h v w' hFv hs hQ sS (st.and (hF v))⟩
theorem One.val (F:Value→World→Prop) (hF:∀ v,Stays (F v)) (hi:nth ops.toList i=some o) (hw:Region.wanted o (yielded ops a.tmps)=true) (hv:∀ w,S w→G w→∃ v w',(execOp a.eval o).run P w=.ok (.value v) w'∧Below w.heap.size w w'∧F v w')
  (h:∀ v u,F v u→Steps P md ops Q S ord (listed.setIfInBounds i true) (a.put o.dst v) (fun w=>G w∧F v w)):One P md ops Q S i ord listed a G:=fun hs hQ sS st w hS hG=>by
 unfold wpOp
 simp only [nth_at hi]
 rw [if_pos hw]
 refine .inl ?_
 unfold Oper.wp
 obtain ⟨v,w',e,hb,hFv⟩:=hv w hS hG
 rw [e]
 exact ⟨_,st.and (hF v),sS _ _ hS hb,⟨st _ _ hG hb,hFv⟩,h v w' hFv hs hQ sS (st.and (hF v))⟩
theorem One.new (F:Value→World→Prop) (hF:∀ v,Stays (F v)) (hi:nth ops.toList i=some o) (hw:Region.wanted o (yielded ops a.tmps)=true) (hv:∀ w,S w→G w→∃ v w',(execOp a.eval o).run P w=.ok (.value v) w'∧S w'∧F v w')
  (h:∀ v u,F v u→Steps P md ops Q S ord (listed.setIfInBounds i true) (a.put o.dst v) (F v)):One P md ops Q S i ord listed a G:=fun hs hQ sS st w hS hG=>by
 unfold wpOp
 simp only [nth_at hi]
 rw [if_pos hw]
 refine .inl ?_
 unfold Oper.wp
 obtain ⟨v,w',e,hb,hFv⟩:=hv w hS hG
 rw [e]
 exact ⟨_,hF v,hb,hFv,h v w' hFv hs hQ sS (hF v)⟩
theorem One.callw (F:Value→World→Prop) (hF:∀ v,Stays (F v)) (hi:nth ops.toList i=some o) (hw:Region.wanted o (yielded ops a.tmps)=true) (hv:∀ w,S w→G w→(execOp a.eval o).run P w=.ok (.enter f args) w)
  (hc:∀ w,S w→G w→Calls P f args w fun e w'=>∃ v,e=.returned v∧S w'∧F v w')
  (h:∀ v u,F v u→Steps P md ops Q S ord (listed.setIfInBounds i true) (a.put o.dst v) (F v)):One P md ops Q S i ord listed a G:=fun hs hQ sS st w hS hG=>by
 unfold wpOp
 simp only [nth_at hi]
 rw [if_pos hw]
 refine .inl ?_
 unfold Oper.wp
 rw [hv w hS hG]
 refine Calls.mono (hc w hS hG) fun e w' he=>?_
 obtain ⟨v,rfl,hb,hFv⟩:=he
 exact ⟨_,hF v,hb,hFv,h v w' hFv hs hQ sS (hF v)⟩
theorem One.store (G':World→Prop) (st':Stays G') (hi:nth ops.toList i=some o) (hw:Region.wanted o (yielded ops a.tmps)=true) (hv:∀ w,S w→G w→∃ w',(execOp a.eval o).run P w=.ok .skip w'∧S w'∧G' w')
  (h:Steps P md ops Q S ord (listed.setIfInBounds i true) (a.put o.dst undef) G'):One P md ops Q S i ord listed a G:=fun hs hQ sS _ w hS hG=>by
 unfold wpOp
 simp only [nth_at hi]
 rw [if_pos hw]
 refine .inl ?_
 unfold Oper.wp
 obtain ⟨w',e,hS',hG'⟩:=hv w hS hG
 rw [e]
 exact ⟨G',st',hS',hG',h hs hQ sS st'⟩
theorem region {id:Nat} {W:World} (S G:World→Prop) (sS:Stays S) (sG:Stays G) (h0:S W.drew) (h1:G W.drew) (ord:List Nat) (hm:P.follows .mixedOrders=true) (hs:Region.noSelect ops=true) (hl:ord.length=ops.size) (hQ:∀ c a d v w,Q (.panic c) (Act.put a d v) w→Q (.panic c) a w)
  (h:Steps P .any ops Q S ord (Array.replicate ops.size false) a G):(Code.region id ops true).wp P Q a W :=
 wp_region_any hm (by
  have k:=Any.any (md:=.any) ord.length (Array.replicate ops.size false) a _ W.drew h0 h1 (h hs hQ sS sG)
  rw [hl] at k
  exact k)
theorem rg {id:Nat} {W:World} (S G:World→Prop) (sS:Stays S) (sG:Stays G) (h0:S W.drew) (h1:G W.drew) (ord:List Nat) (h:Steps P .any ops Q S ord (Array.replicate ops.size false) a G) (hm:P.follows .mixedOrders=true:=by kernel_rfl) (hs:Region.noSelect ops=true:=by kernel_rfl) (hl:ord.length=ops.size:=by kernel_rfl) (hQ:∀ c a d v w,Q (.panic c) (Act.put a d v) w→Q (.panic c) a w:=by (intro _ _ d _ _ h;cases d<;>exact h)):(Code.region id ops true).wp P Q a W:=region S G sS sG h0 h1 ord hm hs hl hQ h
theorem rb {id:Nat} {W:World} (ord:List Nat) (h:Steps P .any ops Q (fun u=>Below W.heap.size W u) ord (Array.replicate ops.size false) a (fun u=>Below W.heap.size W u)) (hm:P.follows .mixedOrders=true:=by kernel_rfl) (hs:Region.noSelect ops=true:=by kernel_rfl) (hl:ord.length=ops.size:=by kernel_rfl) (hQ:∀ c a d v w,Q (.panic c) (Act.put a d v) w→Q (.panic c) a w:=by (intro _ _ d _ _ h;cases d<;>exact h)):(Code.region id ops true).wp P Q a W:=region _ _ (Stays.below W) (Stays.below W) (Below.refl _ _).drew (Below.refl _ _).drew ord hm hs hl hQ h
end
end Go.Proofs.YtjhocpcpkemcaaaGreat.Rh
namespace Go.Proofs.YtjhocpcpkemcaaaGreat.Le
open Go.RowKit
open Rw
open Da
theorem Own.block {α:Type} {e:Enc α} {T:TypeId} {B:Bs} {Bo:Nat} {l:List α} {v:Value} {w:World} (h:Own e T B Bo l v w):∀ k,v.ownBlock=some k→Bo≤k∧k<w.heap.size:=by
 obtain ⟨css,_,_,hr⟩:=h
 exact fun k hk=>hr.lt k hk
theorem take_all {α:Type} {l:List α} {k:Nat} (h:k<l.length):l.take (k+1)=l.take k++[l[k]]:=Da.take_snoc h
end Go.Proofs.YtjhocpcpkemcaaaGreat.Le
