/- A map of integers that the call makes, as a function of its keys. Of no program. -/
import Derived.Test.YtjhocpcpkemcaaaGreatQeZZ
import Derived.Test.YtjhocpcpkemcaaaGreatQeAI
import Derived.Maps.OwnOps
import Derived.Maps.Views
import Derived.WideKeyEntry
import Derived.DeepKeys4
import Derived.Maps.Range
import Derived.Test.YtjhocpcpkemcaaaGreatQeAZ
import Derived.RangeFuncNested
import Derived.RangeFuncBound
import Derived.RangeFuncCalls
import Derived.RangeFuncLeaves
import Derived.RangeFuncOne
import Derived.Sort.MapsRangeIn
import Derived.Shelf.AbstractIn
import Derived.Shelf.Abstract
import Derived.OwnWalkIn
import Derived.TacticsInMore
import Derived.LoopNIn
import Derived.LoopIn
import Derived.Maps.AppendAt
import Derived.Shelf.SlSortCmp.WholeK
import Derived.Shelf.SlGeneric
import Derived.Test.YtjhocpcpkemcaaaGreatProg
import Derived.Shelf.SlSortCmp.NoneTotal
import Derived.Test.YtjhocpcpkemcaaaGreatQeAO
set_option linter.unusedVariables false
set_option maxRecDepth 16000
set_option maxHeartbeats 32000000
namespace Go.Proofs.YtjhocpcpkemcaaaGreat.Mf
open Go Go.Maps Go.RowKit Go.ChangeMaps Go.MapKept
open Go.WideElems (Fit rd rg pl rd_val elemAt entry_then_store)
open Go.WideMaps (KeyLaw)
section
variable {P:Program} {k e t:TypeId} {Kd:Value→Prop}
def MF (P:Program) (k e:TypeId) (Kd:Value→Prop) (f:Value→Int) (b n:Nat) (w:World):Prop :=
 ∃ D:DataW Unit,IsMap D∧w.ownsMap P k (plainElem P e) b n D∧∀ v kl,Kd v→keyOf P k v=some kl→D.atKey kl (.lit (.int .i64 0))=.lit (.int .i64 (f v))
theorem MF.look {f:Value→Int} {b n:Nat} {w:World} (h:MF P k e Kd f b n w) (K:Keyed P k) (ht:P.underlying t=some (.map k e)) (he:P.underlying e=some (.int .i64)) (hz:∀ u:World,(zeroValue e).run P u=.ok (.int .i64 0) u) {key:Value} {kl:Lit} (hd:Kd key) (hkey:keyOf P k key=some kl) :
  (Instr.lookup t (.map (some b)) key false).run P w=.ok (.int .i64 (f key)) w∧(Lit.int .i64 (f key)).wf=true:=by
 obtain ⟨D,_,h1,h2⟩:=h
 obtain ⟨c,hr,ha,hw⟩:=h1.lookup_int K ht he (hz w) hkey
 have e1:=(h2 key kl hd hkey).symm.trans ha
 have e2:f key=c:=by simpa using e1
 rw [e2];exact ⟨hr,hw⟩
end
end Go.Proofs.YtjhocpcpkemcaaaGreat.Mf
namespace Go.Proofs.YtjhocpcpkemcaaaGreat.Mg
open Go Go.Maps Go.RowKit Go.Proofs.YtjhocpcpkemcaaaGreat.Mf
section
variable {P:Program} {k e t:TypeId} {Kd:Value→Prop}
def MK (P:Program) (k e:TypeId) (Kd:Value→Prop) (f:Value→Int) (b n:Nat) (D:DataW Unit) (w:World):Prop :=
 IsMap D∧w.ownsMap P k (plainElem P e) b n D∧(∀ v kl,Kd v→keyOf P k v=some kl→D.atKey kl (.lit (.int .i64 0))=.lit (.int .i64 (f v)))∧∀ kl,has D kl=true→∃ v,Kd v∧keyOf P k v=some kl
theorem MK.mf {f:Value→Int} {b n:Nat} {D:DataW Unit} {w:World} (h:MK P k e Kd f b n D w):MF P k e Kd f b n w:=⟨D,h.1,h.2.1,h.2.2.1⟩
theorem MK.lt {f:Value→Int} {b n:Nat} {D:DataW Unit} {w:World} (h:MK P k e Kd f b n D w):b<w.heap.size:=h.2.1.lt
theorem MK.same {f:Value→Int} {b n:Nat} {D:DataW Unit} {w w':World} (h:MK P k e Kd f b n D w) (hb:w'.heap[b]?=w.heap[b]?):MK P k e Kd f b n D w':=by
 obtain ⟨h1,⟨es,c,h2,h3⟩,h4⟩:=h
 exact ⟨h1,⟨es,c,hb.trans h2,h3⟩,h4⟩
theorem MK.stays {f:Value→Int} {b n:Nat} {D:DataW Unit} {w w':World} (h:MK P k e Kd f b n D w) (hb:Below w.heap.size w w'):MK P k e Kd f b n D w':=h.same (hb.block b h.lt)
theorem MK.congr {f g:Value→Int} {b n:Nat} {D:DataW Unit} {w:World} (h:MK P k e Kd f b n D w) (hf:∀ v,Kd v→g v=f v):MK P k e Kd g b n D w :=
 ⟨h.1,h.2.1,fun v kl hd hk=>by rw [hf v hd];exact h.2.2.1 v kl hd hk,h.2.2.2⟩
theorem MK.made (w:World):MK P k e Kd (fun _=>0) w.heap.size 0 (.map []) (w.alloc (.map #[] 0)) :=
 ⟨isMap_empty,World.ownsMap_made _ _ _ _,fun _ _ _ _=>rfl,fun kl h=>by simp [has] at h⟩
theorem MK.put {f g:Value→Int} {b n:Nat} {D:DataW Unit} {w:World} (h:MK P k e Kd f b n D w) (K:Keyed P k) (ht:P.underlying t=some (.map k e)) (he:P.underlying e=some (.int .i64)) (hn:n<maxLen) {key:Value} {kl:Lit} (hd:Kd key) (hkey:keyOf P k key=some kl)
  {c:Int} (hc:(Lit.int .i64 c).wf=true) (hg:g key=c) (ho:∀ u,Kd u→u≠key→g u=f u) :
  ∃ D' w',(Instr.mapUpdate t (.map (some b)) key (.int .i64 c)).run P w=.ok () w'∧MK P k e Kd g b (n+1) D' w'∧w.grownBy w' (some b):=by
 obtain ⟨hD,h1,h2,h3⟩:=h
 obtain ⟨w',hr,h4,h5⟩:=h1.update K ht hn hkey (plainElem_int he hc)
 refine ⟨_,w',hr,⟨hD.put kl _,h4,fun u ku hd' hu=>?_,fun ku hu=>?_⟩,h5⟩
 ·by_cases hk:ku=kl
  ·subst hk
   have:u=key:=K.inj hu hkey
   subst this
   rw [atKey_put_same hD (K.key hkey),hg]
  ·rw [atKey_put_other hk,ho u hd' (fun e1=>hk (by subst e1;rw [hkey] at hu;exact (Option.some.inj hu).symm))]
   exact h2 u ku hd' hu
 ·by_cases hk:ku=kl
  ·exact ⟨key,hd,hk ▸ hkey⟩
  ·rw [has_put_other hk] at hu
   exact h3 ku hu
theorem MK.isKey {f:Value→Int} {b n:Nat} {D:DataW Unit} {w:World} (h:MK P k e Kd f b n D w) (K:Keyed P k) {v:Value} {kl:Lit} (hv:keyOf P k v=some kl) (hh:has D kl=true):Kd v:=by
 obtain ⟨u,hu,hk⟩:=h.2.2.2 kl hh
 rw [K.inj hv hk];exact hu
theorem MK.none {f:Value→Int} {b n:Nat} {D:DataW Unit} {w:World} (h:MK P k e Kd f b n D w) {v:Value} {kl:Lit} (hd:Kd v) (hv:keyOf P k v=some kl) (hh:has D kl=false):f v=0:=by
 have:=h.2.2.1 v kl hd hv
 rw [atKey_of_not_has hh] at this
 simpa using this.symm
end
section
variable {P:Program} {k:TypeId} {α:Type} {enc:α→Value} {D:DataW Unit} {left:Lit→Bool} {ss:List α}
def Coll (P:Program) (k:TypeId) (enc:α→Value) (D:DataW Unit) (left:Lit→Bool) (ss:List α):Prop :=
 ss.Nodup∧(∀ x∈ss,∃ kl,keyOf P k (enc x)=some kl∧has D kl=true∧left kl=false)∧∀ kl,has D kl=true→left kl=false→∃ x∈ss,keyOf P k (enc x)=some kl
theorem Coll.start (P:Program) (k:TypeId) (enc:α→Value) (D:DataW Unit):Coll P k enc D (has D) [] :=
 ⟨List.nodup_nil,by simp,fun kl h1 h2=>by rw [h1] at h2;cases h2⟩
theorem Coll.step (h:Coll P k enc D left ss) (K:Keyed P k) {x:α} {kl:Lit} {y:DataW Unit} (hkey:keyOf P k (enc x)=some kl) (hlk:left kl=true) (hat:∀ zd,D.atKey kl zd=y):Coll P k enc D (fun z=>left z&&!z.sameKey kl) (ss++[x]):=by
 have hhas:has D kl=true:=has_true_of_atKey hat
 have hself:=WideAt.sameKey_self (K.key hkey)
 have hnew:x ∉ ss:=fun hx=>by
  obtain ⟨kl',h1,_,h3⟩:=h.2.1 x hx
  rw [hkey] at h1
  obtain rfl:=Option.some.inj h1
  rw [hlk] at h3;cases h3
 refine ⟨List.nodup_append.2 ⟨h.1,by simp,fun a ha b hb=>by simp at hb;subst hb;exact fun e=>hnew (e ▸ ha)⟩,fun z hz=>?_,fun kz h1 h2=>?_⟩
 ·rcases List.mem_append.1 hz with hz | hz
  ·obtain ⟨kl',h1,h2,h3⟩:=h.2.1 z hz
   exact ⟨kl',h1,h2,by simp [h3]⟩
  ·simp at hz
   subst hz
   exact ⟨kl,hkey,hhas,by simp [hself]⟩
 ·rcases Bool.eq_false_or_eq_true (left kz) with hl | hl
  ·have hs:kz.sameKey kl=true:=by
    rcases Bool.eq_false_or_eq_true (kz.sameKey kl) with hs | hs
    ·exact hs
    ·simp [hl,hs] at h2
   have:kz=kl:=(WideAt.sameKey_iff (K.key hkey)).1 hs
   subst this
   exact ⟨x,by simp,hkey⟩
  ·obtain ⟨z,hz,hk⟩:=h.2.2 kz h1 hl
   exact ⟨z,List.mem_append_left _ hz,hk⟩
def Keys (P:Program) (k:TypeId) (enc:α→Value) (D:DataW Unit) (ss:List α):Prop :=
 ss.Nodup∧(∀ x∈ss,∃ kl,keyOf P k (enc x)=some kl∧has D kl=true)∧∀ kl,has D kl=true→∃ x∈ss,keyOf P k (enc x)=some kl
theorem Coll.all (h:Coll P k enc D left ss) (hl:∀ kl,left kl=false):Keys P k enc D ss :=
 ⟨h.1,fun x hx=>by obtain ⟨kl,h1,h2,_⟩:=h.2.1 x hx;exact ⟨kl,h1,h2⟩,fun kl h1=>h.2.2 kl h1 (hl kl)⟩
theorem Keys.perm {ss ts:List α} (h:Keys P k enc D ss) (hp:ts.Perm ss):Keys P k enc D ts :=
 ⟨hp.nodup_iff.2 h.1,fun x hx=>h.2.1 x (hp.mem_iff.1 hx),fun kl h1=>by obtain ⟨x,hx,hk⟩:=h.2.2 kl h1;exact ⟨x,hp.mem_iff.2 hx,hk⟩⟩
end
end Go.Proofs.YtjhocpcpkemcaaaGreat.Mg
namespace Go.Proofs.YtjhocpcpkemcaaaGreat.Ac
open Go.RowKit Go.Maps
open Go.ChangeMaps Go.ChangeShapes Go.WideShapes
open Rw
open Mg
def encP (p:Pu):Value:=.agg #[.int .i64 p.1,.int .i64 p.2]
theorem encP_inj {p q:Pu} (h:encP p=encP q):p=q:=by
 obtain ⟨a,b⟩:=p
 obtain ⟨c,d⟩:=q
 simp [encP] at h
 rw [h.1,h.2]
def KQ (v:Value):Prop:=∃ p,pmay p=true∧v=encP p
theorem laidOutQ:laidOutB Tryz.prog=true:=by kernel_rfl
theorem lawQ:Go.WideMaps.KeyLaw Tryz.prog 50:=deep_law_laid laidOutQ (m:=2) (by omega) (of_decide_eq_true (by kernel_rfl)) (by kernel_rfl) (by kernel_rfl)
theorem keyedQ:Keyed Tryz.prog 50:=Keyed.of_law lawQ
theorem zeroQ (w:World):(zeroValue 3).run Tryz.prog w=.ok (.int .i64 0) w:=by kernel_rfl
noncomputable def litQ (a s:Nat):Option Lit:=keyOf Tryz.prog 50 (.agg #[.int .i64 a,.int .i64 s])
theorem litQ_all:((List.range 64).all fun a=>(List.range 8).all fun s=>(litQ a s).isSome)=true:=by kernel_rfl
theorem keyQ {p:Pu} (h:pmay p=true):∃ kl,keyOf Tryz.prog 50 (encP p)=some kl:=by
 obtain ⟨h1,h2,h3,h4⟩:=pmay_iff.1 h
 obtain ⟨a,ha⟩:∃ a:Nat,p.1=a:=⟨p.1.toNat,by omega⟩
 obtain ⟨s,hs⟩:∃ s:Nat,p.2=s:=⟨p.2.toNat,by omega⟩
 have e1:=List.all_eq_true.1 litQ_all a (List.mem_range.2 (by omega))
 have e2:=List.all_eq_true.1 e1 s (List.mem_range.2 (by omega))
 unfold encP
 rw [ha,hs]
 exact Option.isSome_iff_exists.1 e2
theorem cellsQ:Tryz.prog.cellsOf 50=2:=by kernel_rfl
theorem cellsI:Tryz.prog.cellsOf 3=1:=by kernel_rfl
theorem keyQ_inv {v:Value} {kl:Lit} (h:keyOf Tryz.prog 50 v=some kl):∃ p,v=encP p:=by
 unfold keyOf at h
 rw [fieldsP] at h
 simp only at h
 split at h
 ·rename_i hc
  rw [Bool.and_eq_true] at hc
  cases v with
  | agg cs =>
   have h2:=hc.2
   unfold Value.formed at h2
   rw [fieldsP] at h2
   simp only [cellsQ,beq_iff_eq] at h2
   obtain ⟨ls,hls,_⟩:=Option.map_eq_some_iff.1 h
   unfold Program.keyLits at hls
   rw [Tryz.underlying50] at hls
   simp only at hls
   split at hls
   ·obtain ⟨x,y,hxy⟩:∃ x y,cs=#[x,y]:=by
     obtain ⟨l⟩:=cs
     match l,h2 with
     | [x,y],_=>exact ⟨x,y,rfl⟩
    subst hxy
    obtain ⟨ls',hls',_⟩:=Option.map_eq_some_iff.1 hls
    simp [cellsI,Value.cells,Option.bind_eq_some_iff] at hls'
    obtain ⟨l1,k1,l2,⟨l3,k2,_⟩,_⟩:=hls'
    have isInt:∀ {m:Nat} {z:Value} {l:List Lit},Program.keyLits Tryz.prog m 3 [z]=some l→∃ a,z=.int .i64 a:=fun {m z l} hk=>by
     cases m with
     | zero=>simp [Program.keyLits] at hk
     | succ m =>
      unfold Program.keyLits at hk
      rw [Tryz.underlying3] at hk
      cases z<;>simp at hk
      rename_i q a
      exact ⟨a,by rw [hk.1.1]⟩
    obtain ⟨a,rfl⟩:=isInt k1
    obtain ⟨b,rfl⟩:=isInt k2
    exact ⟨(a,b),rfl⟩
   ·cases hls
  | _=>
   have h2:=hc.2
   unfold Value.formed at h2
   rw [fieldsP] at h2
   simp at h2
 ·cases h
def fQ (g:Pu→Int):Value→Int
 | .agg #[.int _ a,.int _ b]=>g (a,b)
 | _=>0
abbrev MQ (g:Pu→Int) (b n:Nat) (D:DataW Unit) (w:World):Prop:=MK Tryz.prog 50 3 KQ (fQ g) b n D w
theorem MQ.made (w:World):MQ (get []) w.heap.size 0 (.map []) (w.alloc (.map #[] 0)) :=
 MK.congr (MK.made w) fun v ⟨p,_,e⟩=>by subst e;rfl
theorem MQ.look {g:Pu→Int} {b n:Nat} {D:DataW Unit} {w:World} (h:MQ g b n D w) {p q:Int} (hp:pmay (p,q)=true) :
  (Instr.lookup 209 (.map (some b)) (.agg #[.int .i64 p,.int .i64 q]) false).run Tryz.prog w=.ok (.int .i64 (g (p,q))) w:=by
 obtain ⟨kl,hk⟩:=keyQ hp
 exact (Mf.MF.look h.mf keyedQ Tryz.underlying209 Tryz.underlying3 zeroQ ⟨(p,q),hp,rfl⟩ hk).1
theorem MQ.put {f g:Pu→Int} {b n:Nat} {D:DataW Unit} {w:World} (h:MQ f b n D w) (hn:n<maxLen) {p q:Int} (hp:pmay (p,q)=true) {c:Int} (hc:(Lit.int .i64 c).wf=true) (hg:g (p,q)=c) (ho:∀ u:Pu,u≠(p,q)→g u=f u) :
  ∃ D' w',(Instr.mapUpdate 209 (.map (some b)) (.agg #[.int .i64 p,.int .i64 q]) (.int .i64 c)).run Tryz.prog w=.ok () w'∧MQ g b (n+1) D' w'∧w.grownBy w' (some b):=by
 obtain ⟨kl,hk⟩:=keyQ hp
 refine MK.put h keyedQ Tryz.underlying209 Tryz.underlying3 hn (key:=encP (p,q)) ⟨(p,q),hp,rfl⟩ hk hc hg fun u ⟨x,hx,e⟩ hne=>?_
 subst e
 exact ho x fun e=>hne (by rw [e])
end Go.Proofs.YtjhocpcpkemcaaaGreat.Ac
namespace Go.Proofs.YtjhocpcpkemcaaaGreat.Ac
open Go.RowKit Go.Maps Go.Sort Go.Shelf
open Rw
open Mg
theorem MQ.stays {g:Pu→Int} {b n:Nat} {D:DataW Unit} {w w':World} (h:MQ g b n D w) (hb:Below w.heap.size w w'):MQ g b n D w':=MK.stays h hb
theorem keys1_in (F:Fence) (n:Nat) (h10:F.fn 241) (hro:F.round=none) (hn:1≤n) (l Bm b nn:Nat) (D0:DataW Unit) {R:Value→Option (DataW Unit × List MemPlace)} (J Jx:List Pu→World→Prop)
  (hY:∀ pre x W,J pre W→pre.length<Maps.size D0→YieldAt F (n - 1) Tryz.prog l #[encP x] W fun e W' =>
   (e=.returned (.bool true)∧J (pre++[x]) W'∧KeepsWalks W W')∨(e=.returned (.bool false)∧Jx (pre++[x]) W'))
  (W:World) (hJ:AbidesFrom W.heap.size J) (hm:W.cell? ⟨Bm,0,none⟩=some (.map (some b))) (hown:W.ownsMap Tryz.prog 50 R b nn D0) (h0:J [] W) :
  CallsIn F n Tryz.prog 241 #[.func (.yield l) #[] #[],.pointer (some ⟨Bm,0,none⟩)] W fun e W'=>(∃ v,e=.returned v) ∧
   ((∃ ss:List Pu,Keys Tryz.prog 50 encP D0 ss∧J ss W')∨(∃ pre:List Pu,True∧Jx pre W')):=by
 refine callsIn_of_wp Tryz.func241 rfl h10 ?_ hro
 simp only [Tryz.ntmps241,List.size_toArray,List.length_cons,List.length_nil,Nat.reduceAdd,Nat.reduceSub,Array.replicate_succ,Array.replicate_zero,List.push_toArray,List.append_toArray,List.nil_append,List.cons_append]
 gi_wp2_with (first
  | (gi_at_range;refine wpListIn_range_own _ rfl _ 209 rfl 50 3 keyedQ Tryz.underlying209 _ b nn _ rfl hown ?_;intro w0 hrg0 hg0 hs0)
  | gi_in)
 go_frame
 gi_loopw [3] (fun _ wr=>∃ (left:Lit→Bool) (cnt:Nat) (ss:List Pu),wr.ranges Tryz.prog 50 R b W.heap.size nn D0 left cnt∧ss.length+cnt≤Maps.size D0∧Coll Tryz.prog 50 encP D0 left ss∧J ss wr)
  (fun _ wr=>wr.rangeLeft b W.heap.size)
 case atStart =>
  exact ⟨_,_,[],hrg0,by simp,Coll.start _ _ _ D0,hJ [] W w0 none h0 hg0 (fun r e=>by cases e)⟩
 case round =>
  obtain ⟨left,cnt,ss,hrg,hcs,hC,hJs⟩:=hrel
  gi_wp2_with (first
   | (gi_at_next;refine wpListIn_next_ranges _ rfl _ rfl 50 keyedQ R encP id (fun key kl hk=>keyQ_inv hk) (fun v _ _=>⟨v,rfl⟩) b W.heap.size nn _ _ _ rfl hrg ?_ ?_)
   | gi_in)
  ·intro hc0 hl0
   gi_wp2
   go_end0
   exact ⟨⟨_,rfl⟩,.inl ⟨ss,hC.all hl0,hJs⟩⟩
  ·intro x1 x2 c kl yd yp w2 cnt2 hkey hlk hv hat hrg2 hlt hg2 hs2 hen
   have hJ2:J ss w2:=hJ ss wr w2 (some W.heap.size) hJs hg2 (fun r e=>by cases e;exact ⟨Nat.le_refl _,hrg.iter_walk⟩)
   have hJ3:J ss (w2.alloc (.cells #[.int .i64 x1,.int .i64 x2] 50)):=hJ ss w2 _ none hJ2 (World.grownBy_alloc w2 _ none) (fun r e=>by cases e)
   obtain ⟨fn,tmps,assign,body,hy,hR⟩:=hY ss (x1,x2) _ hJ3 (by omega)
   clear hs2
   unfold encP at hen hy
   gi_wp2
   refine hR.mono ?_
   have hC2:=hC.step keyedQ hkey hlk hat
   rintro e W3 (⟨rfl,hJ3,hk3⟩ | ⟨rfl,hJx3⟩)
   ·gi_wp2
    have hrg3:=(hrg2.alloc (.cells #[.int .i64 x1,.int .i64 x2] 50)).of_walks hk3
    go_roundw
    case rel=>exact ⟨_,cnt2,ss++[(x1,x2)],hrg3,by simp;omega,hC2,hJ3⟩
    case measure=>rw [hrg3.left_eq,hrg.left_eq];exact hlt
   ·gi_wp2
    refine bodyPost_ret (results_none rfl _ _ _) rfl ?_
    exact ⟨⟨_,rfl⟩,.inr ⟨ss++[(x1,x2)],trivial,hJx3⟩⟩
theorem keys_stops (F:Fence) (n:Nat) (h10:F.fn 241) (hro:F.round=none) (hn:1≤n) (Bm b nn:Nat) (D0:DataW Unit) {R:Value→Option (DataW Unit × List MemPlace)} (w:World) (hBm:Bm<w.heap.size)
  (hm:w.cell? ⟨Bm,0,none⟩=some (.map (some b))) (hown:w.ownsMap Tryz.prog 50 R b nn D0) :
  SeqStopsK F n Tryz.prog 241 #[.pointer (some ⟨Bm,0,none⟩)] (fun x:Pu=>#[encP x]) KeepsWalks (Keys Tryz.prog 50 encP D0) (fun _=>True) (Maps.size D0) w:=fun l J Jx W hW hJ _ hY h0=>by
 have hown':W.ownsMap Tryz.prog 50 R b nn D0:=by
  have hbl:=hown.lt
  obtain ⟨es,clock,hb,Ft,hs,hD⟩:=hown
  exact ⟨es,clock,(hW.block b hbl).trans hb,Ft,hs,hD⟩
 exact keys1_in F n h10 hro hn l Bm b nn D0 J Jx hY W hJ ((hW.cell (p:=⟨Bm,0,none⟩) hBm).trans hm) hown' h0
theorem keys_in (F:Fence) (n:Nat) (h7:F.fn 228) (hro:F.round=none) (mb:Option Nat) (w:World) :
  CallsIn F n Tryz.prog 228 #[.map mb] w fun e w'=>e=.returned (.func (.func 241) #[] #[.pointer (some ⟨w.heap.size,0,none⟩)])∧w'=w.alloc (.cells #[.map mb] 209):=by
 refine callsIn_of_wp Tryz.func228 rfl h7 ?_ hro
 simp only [Tryz.ntmps228,List.size_toArray,List.length_cons,List.length_nil,Nat.reduceAdd,Nat.reduceSub,Array.replicate_succ,Array.replicate_zero,List.push_toArray,List.append_toArray,List.nil_append,List.cons_append]
 gi_wp2
 go_ret
 exact ⟨rfl,rfl⟩
end Go.Proofs.YtjhocpcpkemcaaaGreat.Ac
namespace Go.Proofs.YtjhocpcpkemcaaaGreat.Ac
open Go.RowKit Go.Maps Go.Sort Go.Shelf
open Rw
open Sl
attribute [local go_sem] Oper.semAt_some
theorem infoP:(Tryz.prog.info? 50).map (fun i=>(i.zero,i.size,i.bytes))=some (some (.agg #[.int .i64 0,.int .i64 0]),2,16):=by kernel_rfl
def encL (p:Pu):List Value:=[.int .i64 p.1,.int .i64 p.2]
theorem encL_len (p:Pu):(encL p).length=2:=rfl
abbrev OwnP (B:Nat) (l:List Pu) (v:Value) (w:World):Prop:=w.ownsRow B 50 2 v l.length (l.flatMap encL)
theorem OwnP.snoc {B:Nat} {l:List Pu} {p:Pu} {v:Value} {w:World} (k:w.ownsRow B 50 2 v (l.length+1) (l.flatMap encL++encL p)):OwnP B (l++[p]) v w:=by
 unfold OwnP;rw [flat_snoc,List.length_append];exact k
def Box2 (W:World) (B:Nat) (x:Pu):Prop:=W.heap[B]?=some (.cells #[.int .i64 x.1,.int .i64 x.2] 50 (0,0))
theorem Box2.cells {W:World} {B:Nat} {x:Pu} (h:Box2 W B x):W.cell? ⟨B,0,none⟩=some (.int .i64 x.1)∧W.cell? ⟨B,1,none⟩=some (.int .i64 x.2)∧B<W.heap.size:=by
 unfold Box2 at h
 exact ⟨by simp [World.cell?,h],by simp [World.cell?,h],(Array.getElem?_eq_some_iff.1 h).1⟩
theorem Box2.own (B n:Nat) (x:Pu):OwnFrom n (fun (_:Unit) W=>Box2 W B x):=fun s X Y row hs hg hr=>by
 refine (hg.block B (Array.getElem?_eq_some_iff.1 hs).1 fun e=>?_).trans hs
 obtain ⟨_,o,ho,hc⟩:=hr B e.symm
 rw [show X.heap[B]?=_ from hs] at ho;cases ho;cases hc
theorem appendSeq_in (F:Fence) (n:Nat) (h11:F.fn 244) (hro:F.round=none) (hn:2≤n) (g:Nat) (lb:Array Value) (hFg:F.fn g) (eg:∀ args w,(callFunc g args).run Tryz.prog w=.ok (.enter g args) w)
  (S:List Pu→Prop) (N:Nat) (hN:N≤1000000) (w:World) (hseq:SeqStopsK F (n - 1) Tryz.prog g lb (fun x:Pu=>#[.agg #[.int .i64 x.1,.int .i64 x.2]]) KeepsWalks S (fun _=>True) N w) :
  CallsIn F n Tryz.prog 244 #[.slice none 0 0,.func (.func g) #[] lb] w fun e w'=>∃ (v:Value) (ss:List Pu),e=.returned v∧S ss∧OwnP w.heap.size ss v w'∧Below w.heap.size w w'∧ss.length≤N:=by
 have h1:1≤n:=by omega
 obtain ⟨i0,hi,hz0,hz1,hz2⟩:=info_parts infoP
 refine callsIn_of_wp_marks Tryz.func244 rfl h11 ?_ hro
 simp only [Tryz.ntmps244,List.size_toArray,List.length_cons,List.length_nil,Nat.reduceAdd,Nat.reduceSub,Array.replicate_succ,Array.replicate_zero,List.push_toArray,List.append_toArray,List.nil_append,List.cons_append]
 gi_wp2
 have bO:=Boxed.new w 32 (.slice none 0 0)
 have hB0:Below w.heap.size w (w.alloc (.cells #[.slice none 0 0] 32)):=(Below.refl _ w).alloc (Nat.le_refl _) _
 refine wpIn_rangeFunc_ownH hro h1 (gf:=g) (lb:=lb) rfl hFg eg hseq walksK_t walksK_b hB0 (fun _=>rfl)
  (fun pre W=>(∃ v,Boxed W w.heap.size 32 v∧W.ownsRow w.heap.size 50 2 v pre.length (pre.flatMap encL)∧True)∧Below w.heap.size w W∧pre.length≤N)
  (fun _ _ _=>False)
  (OwnFrom.and (Own.from (holdsRow_own w.heap.size w.heap.size 32 50 2 (fun pre:List Pu=>pre.length) (fun pre=>pre.flatMap encL) (fun _ _=>True)) _) (OwnFrom.and (ownFrom_below (Nat.le_refl _) (by simp)) (ownFrom_pure _ (fun pre:List Pu=>pre.length≤N))))
  (fun _ _ _ _ _ hs _ _=>hs)
  ⟨⟨_,bO,World.ownsRow_nil _ _ _ _,trivial⟩,hB0,Nat.zero_le _⟩
  (fun x a' W=>∃ Bx,w.heap.size<Bx∧Box2 W Bx x∧a'={ tmps:=#[.slice none 0 0,.func (.func g) #[] lb,.pointer (some ⟨w.heap.size,0,none⟩),undef,.slice none 0 0,.pointer (some ⟨Bx,0,none⟩),.func (.func g) #[] lb,.agg #[.int .i64 x.1,.int .i64 x.2],undef,undef,undef,undef,undef],defers:=[] })
  (fun x a' _ X Y row hs hg hr=>by obtain ⟨Bx,h1,h2,h3⟩:=hs;exact ⟨Bx,h1,Box2.own Bx _ x () X Y row h2 hg hr,h3⟩)
  ?assign ?body ?done ?stop
 case assign =>
  rintro l pre x W K ⟨⟨v,hv,hrow,_⟩,hB,hpl⟩ hK
  gi_wp2
  exact hK _ _ ((KeepsOthers.alloc _ _).from _) (KeepsWalks.alloc _ _) ⟨⟨v,hv.alloc _,hrow.alloc _,trivial⟩,hB.alloc hB.size _,hpl⟩ ⟨W.heap.size,hv.lt,World.alloc_heap_new W _,rfl⟩
 case body =>
  rintro l pre x a' W hl ⟨r,hr⟩ ⟨⟨v,hv,hrow,_⟩,hB,_⟩ ⟨Bx,hBx,bX,rfl⟩ hlt
  have hc:=hv.cell
  obtain ⟨k0,k1,kz⟩:=bX.cells
  gi_wp2_with (gi_at_builtin;refine wpListIn_append_own _ rfl _ _ 32 rfl w.heap.size 50 i0 (.agg #[.int .i64 0,.int .i64 0]) 2 16 Tryz.underlying32 hi hz0 hz1 hz2 rfl (by decide) _ _ _ rfl (hrow.alloc _) ⟨W.heap.size,0,none⟩ 1 1 [.int .i64 x.1,.int .i64 x.2] rfl rfl ?c1 ?c2 ?c3 ?c4 ?c5 ?_)
  case c1=>intro j u hj;rcases j with _ | _ | _<;>simp at hj<;>subst hj<;>simp [Addr.add,go_sem]
  case c2=>intro u hu;simp at hu;rcases hu with rfl | rfl<;>rfl
  case c3=>unfold maxLen;omega
  case c4=>omega
  case c5=>have:=hB.size;simp;omega
  intro v' w1 hown' hgrow _
  obtain ⟨g',cap',rfl⟩:=ownsRow_succ hown'
  obtain ⟨hv1,hv2,hr2,hk2,hb2⟩:=hv.appended (by decide) hrow hB.size (Nat.le_refl _) hown' hgrow
  have hc1:=hv1.cell
  have hf1:=hv1.frozen
  gi_wp2
  exact ⟨hk2.from _,hk2.walks,⟨_,hv2,OwnP.snoc hr2,trivial⟩,hB.trans hb2,by simp;omega⟩
 case done =>
  rintro D ys W hD hS ⟨⟨v,hv,hrow,_⟩,hB,hpl⟩ hK
  have hc:=hv.cell
  gi_wp2
  refine ⟨by simp,.inl ⟨_,_,rfl,run_takeDeferred hK,?_⟩⟩
  exact ⟨_,results_tmp rfl _ _ _,v,ys,rfl,hS,ownsRow_putObj hrow _ hK rfl,hB.trans (belowK_b (w:=w) (Nat.le_refl _) W D _ _ (by simp at hD;omega) hK rfl rfl),hpl⟩
 case stop =>
  rintro D c pre W _ _ h _
  exact h.elim
theorem collect_in (F:Fence) (n:Nat) (h8:F.fn 239) (h11:F.fn 244) (hro:F.round=none) (hn:3≤n) (g:Nat) (lb:Array Value) (hFg:F.fn g) (eg:∀ args w,(callFunc g args).run Tryz.prog w=.ok (.enter g args) w)
  (S:List Pu→Prop) (N:Nat) (hN:N≤1000000) (w:World) (hseq:SeqStopsK F (n - 1 - 1) Tryz.prog g lb (fun x:Pu=>#[.agg #[.int .i64 x.1,.int .i64 x.2]]) KeepsWalks S (fun _=>True) N w) :
  CallsIn F n Tryz.prog 239 #[.func (.func g) #[] lb] w fun e w'=>∃ (v:Value) (ss:List Pu),e=.returned v∧S ss∧OwnP w.heap.size ss v w'∧Below w.heap.size w w'∧ss.length≤N:=by
 have h1:1≤n:=by omega
 refine callsIn_of_wp Tryz.func239 rfl h8 ?_ hro
 simp only [Tryz.ntmps239,List.size_toArray,List.length_cons,List.length_nil,Nat.reduceAdd,Nat.reduceSub,Array.replicate_succ,Array.replicate_zero,List.push_toArray,List.append_toArray,List.nil_append,List.cons_append]
 gi_wp2_with (gi_at_call 244;refine (appendSeq_in F (n - 1) h11 hro (by omega) g lb hFg eg S N hN _ hseq).mono ?_;rintro e w' ⟨v,ss,rfl,hS,hrow,hb,hl⟩)
 go_ret
 exact ⟨v,ss,rfl,hS,hrow,hb,hl⟩
end Go.Proofs.YtjhocpcpkemcaaaGreat.Ac
namespace Go.Proofs.YtjhocpcpkemcaaaGreat.Ac
open Go.RowKit Go.Maps
open Rw
open Sl
variable {lo:Nat}
theorem get_snoc {a:List Hd} {h:Hd} (hn:∀ k∈a,key k≠key h) (p:Pu):get (a++[h]) p=if key h=p then amt h else get a p:=by
 induction a with
 | nil=>rfl
 | cons x a ih =>
  rw [List.cons_append,get,ih (fun k hk=>hn k (List.mem_cons_of_mem _ hk)),get]
  by_cases e:key x=p
  ·rw [if_pos e,if_pos e,if_neg (fun e2=>hn x List.mem_cons_self (e.trans e2.symm))]
  ·rw [if_neg e,if_neg e]
theorem get_take {l:List Hd} (hr:Right l) {k:Nat} (h:k<l.length) (p:Pu):get (l.take (k+1)) p=if key l[k]=p then amt l[k] else get (l.take k) p:=by
 rw [take_snoc h]
 refine get_snoc (fun x hx e=>?_) p
 obtain ⟨i,hi,rfl⟩:=List.getElem_of_mem hx
 rw [List.length_take] at hi
 have:=List.pairwise_iff_getElem.1 hr.2 i k (by omega) h (by omega)
 rw [List.getElem_take] at e
 rw [e,pless_irrefl] at this;cases this
def MapPost (g:Pu→Int) (m:Nat) (w:World) (e:Ending) (w':World):Prop:=∃ (b n:Nat) (D:DataW Unit),e=.returned (.map (some b))∧n≤m∧MQ g b n D w'∧w.heap.size≤b∧Below w.heap.size w w'
theorem byPurse_any (l:List Hd) (v:Value) (w:World) (h:HL lo l v w) (hr:Right l) (hm:l.length≤1000000) :
  Calls Tryz.prog 202 #[v] w (MapPost (get l) l.length w):=by
 have hmm:=@run_makeMap Tryz.prog
 have HRt:=lH hr
 have HMd:=lH (MQ.made w)
 clear hr
 rcases h.cases with ⟨rfl,a,c,rfl⟩ | ⟨hne,b,off,c,rfl,hat⟩
 ·clear h
  go_enter Tryz.func202,Tryz.ntmps202
  go_wp2
  go_loopw [9] (fun i wr=>i=.int .i64 0∧wr=w.alloc (.map #[] 0)) (fun i _=>0)
  case atStart=>exact ⟨rfl,rfl⟩
  case round =>
   obtain ⟨rfl,rfl⟩:=hrel
   go_wp2
   go_ret
   exact ⟨_,_,_,rfl,Nat.le_refl _,HMd.out,Nat.le_refl _,below1 _ _⟩
 ·have HA:=lH hat
  have hbb:b<w.heap.size:=hat.1
  obtain ⟨n,hn⟩:∃ n,n=l.length:=⟨_,rfl⟩
  rw [← hn] at hm ⊢
  have HN:=lH hn
  clear h hat hn hne
  go_enter Tryz.func202,Tryz.ntmps202
  go_wp2
  go_loopw [9] (fun i wr=>∃ (k:Nat) (D:DataW Unit),k≤n∧i=.int .i64 k∧Below w.heap.size w wr∧MQ (get (l.take k)) w.heap.size k D wr) (fun i _=>n - (intOf i).toNat)
  case atStart=>exact ⟨0,_,Nat.zero_le _,rfl,below1 _ _,HMd.out⟩
  case round =>
   obtain ⟨k,D,hk,rfl,hb,hM⟩:=hrel
   have HM:=lH hM
   clear hM
   by_cases hlt:k<n
   ·have hlt2:(k:Int)<n:=by omega
    have hkl:k<l.length:=by rw [← HN.out];exact hlt
    obtain ⟨⟨x,y,z⟩,hx⟩:∃ x,l[k]=x:=⟨_,rfl⟩
    have hc:=at3 HA.out k hkl
    have ht:=get_take HRt.out hkl
    have hg:=HRt.out.1 l[k] (List.getElem_mem hkl)
    rw [hx] at hc ht hg
    simp only at hc
    obtain ⟨q0,q1,q2⟩:=hc
    obtain ⟨c1,f1,r1,p1⟩:=bcell hb
    have hg2:=good_iff.1 hg
    obtain ⟨D2,w2,hput,hM2,hgr⟩:=MQ.put (HM.out.stays (below1 wr (.cells #[.int .i64 x,.int .i64 y,.int .i64 z] 52))) (g:=get (l.take (k+1))) (by unfold maxLen;omega) (p:=x) (q:=y) hg2.1 (c:=z) (Go.WalkArith.wf_i64 (by have:=hg2.2;simp only [amt] at this;omega)) (by rw [ht];exact if_pos rfl) (fun u hu=>by rw [ht];exact if_neg (fun e=>hu e.symm))
    have HM2:=lH hM2
    have hsz:=hb.size
    have HB2:Hid (Below w.heap.size w w2):=lH ((hb.alloc hsz _).grown hgr (by simp;omega) (fun k e=>by cases e;exact Nat.le_refl _))
    clear hM2 hgr ht hg hg2 hx
    go_wp2
    go_roundw
    case rel=>exact ⟨k+1,_,by omega,by go_num,HB2.out,HM2.out⟩
    case measure=>simp [intOf];omega
   ·obtain rfl:k=n:=by omega
    have e1:l.take k=l:=by rw [HN.out,List.take_length]
    have hz:=HM.out
    rw [e1] at hz
    have HZ:=lH hz
    clear hz e1
    go_wp2
    go_ret
    exact ⟨_,_,_,rfl,Nat.le_refl _,HZ.out,Nat.le_refl _,hb⟩
end Go.Proofs.YtjhocpcpkemcaaaGreat.Ac
namespace Go.Proofs
open Go.Shelf
def Tryz.sortP_ren:Go.Shelf.Ren:=⟨fun | 6=>240 | 15=>201 | 14=>245 | 28=>225 | 29=>226 | 20=>247 | 21=>248 | 22=>249 | 23=>250 | 24=>251 | 25=>252 | 26=>253 | 27=>254 | 46=>255 | 47=>235 | 48=>236 | 49=>256 | 50=>257 | 57=>258 | n=>n,fun | 22=>32 | 24=>50 | 25=>132 | 3=>3 | 39=>146 | 0=>0 | 53=>228 | 55=>48 | 4=>4 | 46=>222 | 45=>221 | 50=>117 | 5=>5 | 9=>9 | 66=>237 | 70=>241 | 76=>245 | 77=>69 | n=>n,fun | n=>n⟩
theorem Tryz.sortP:Go.Proofs.SlLaysF0.n6 Tryz.prog Tryz.sortP_ren:={
 mixed:=by kernel_rfl
 f6:=⟨Tryz.f240.name,by decide,Tryz.func240.trans (congrArg some (by kernel_rfl))⟩
 f14:=⟨Tryz.f245.name,by decide,Tryz.func245.trans (congrArg some (by kernel_rfl))⟩
 f15:=Tryz.func201.trans (congrArg some (by kernel_rfl))
 f20:=⟨Tryz.f247.name,by decide,Tryz.func247.trans (congrArg some (by kernel_rfl))⟩
 f21:=⟨Tryz.f248.name,by decide,Tryz.func248.trans (congrArg some (by kernel_rfl))⟩
 f22:=⟨Tryz.f249.name,by decide,Tryz.func249.trans (congrArg some (by kernel_rfl))⟩
 f23:=⟨Tryz.f250.name,by decide,Tryz.func250.trans (congrArg some (by kernel_rfl))⟩
 f24:=⟨Tryz.f251.name,by decide,Tryz.func251.trans (congrArg some (by kernel_rfl))⟩
 f25:=⟨Tryz.f252.name,by decide,Tryz.func252.trans (congrArg some (by kernel_rfl))⟩
 f26:=⟨Tryz.f253.name,by decide,Tryz.func253.trans (congrArg some (by kernel_rfl))⟩
 f27:=⟨Tryz.f254.name,by decide,Tryz.func254.trans (congrArg some (by kernel_rfl))⟩
 f28:=Tryz.func225.trans (congrArg some (by kernel_rfl))
 f29:=Tryz.func226.trans (congrArg some (by kernel_rfl))
 f46:=⟨Tryz.f255.name,by decide,Tryz.func255.trans (congrArg some (by kernel_rfl))⟩
 f47:=Tryz.func235.trans (congrArg some (by kernel_rfl))
 f48:=Tryz.func236.trans (congrArg some (by kernel_rfl))
 f49:=⟨Tryz.f256.name,by decide,Tryz.func256.trans (congrArg some (by kernel_rfl))⟩
 f50:=⟨Tryz.f257.name,by decide,Tryz.func257.trans (congrArg some (by kernel_rfl))⟩
 f57:=⟨Tryz.f258.name,by decide,Tryz.func258.trans (congrArg some (by kernel_rfl))⟩
 t0:=Tryz.underlying0
 a0:=Tryz.isAgg0
 z0:=Tryz.sizeOf0
 v0:=Tryz.zeroValue0
 t3:=Tryz.underlying3
 a3:=Tryz.isAgg3
 z3:=Tryz.sizeOf3
 v3:=Tryz.zeroValue3
 t4:=Tryz.underlying4
 a4:=Tryz.isAgg4
 z4:=Tryz.sizeOf4
 v4:=Tryz.zeroValue4
 t5:=Tryz.underlying5
 a5:=Tryz.isAgg5
 z5:=Tryz.sizeOf5
 v5:=Tryz.zeroValue5
 t9:=Tryz.underlying9
 a9:=Tryz.isAgg9
 z9:=Tryz.sizeOf9
 v9:=Tryz.zeroValue9
 t22:=Tryz.underlying32
 a22:=Tryz.isAgg32
 z22:=Tryz.sizeOf32
 v22:=Tryz.zeroValue32
 t25:=Tryz.underlying132
 a25:=Tryz.isAgg132
 z25:=Tryz.sizeOf132
 v25:=Tryz.zeroValue132
 t39:=Tryz.underlying146
 a39:=Tryz.isAgg146
 z39:=Tryz.sizeOf146
 v39:=Tryz.zeroValue146
 t45:=Tryz.underlying221
 a45:=Tryz.isAgg221
 z45:=Tryz.sizeOf221
 v45:=Tryz.zeroValue221
 t46:=Tryz.underlying222
 a46:=Tryz.isAgg222
 z46:=Tryz.sizeOf222
 v46:=Tryz.zeroValue222
 t50:=Tryz.underlying117
 a50:=Tryz.isAgg117
 z50:=Tryz.sizeOf117
 v50:=Tryz.zeroValue117
 t53:=Tryz.underlying228
 a53:=Tryz.isAgg228
 z53:=Tryz.sizeOf228
 v53:=Tryz.zeroValue228
 t55:=Tryz.underlying48
 a55:=Tryz.isAgg48
 z55:=Tryz.sizeOf48
 v55:=Tryz.zeroValue48
 t66:=Tryz.underlying237
 a66:=Tryz.isAgg237
 z66:=Tryz.sizeOf237
 v66:=Tryz.zeroValue237
 t70:=Tryz.underlying241
 a70:=Tryz.isAgg241
 z70:=Tryz.sizeOf241
 v70:=Tryz.zeroValue241
 t76:=Tryz.underlying245
 a76:=Tryz.isAgg245
 z76:=Tryz.sizeOf245
 v76:=Tryz.zeroValue245
 t77:=Tryz.underlying69
 a77:=Tryz.isAgg69
 z77:=Tryz.sizeOf69
 v77:=Tryz.zeroValue69 }
end Go.Proofs
namespace Go.Proofs.YtjhocpcpkemcaaaGreat.Ac
open Go.RowKit Go.Maps Go.Sort Go.Shelf
open Rw
open Sl
open Mg
theorem encL_one (x:Pu):∀ v∈encL x,v.oneCell'=true:=by
 intro v hv;simp [encL] at hv;rcases hv with rfl | rfl<;>rfl
theorem swoP:SWO (ltOf cmpP) where
 irrefl x:=by unfold ltOf;rw [cmpP_lt];exact pless_irrefl x
 trans x y z h1 h2:=by unfold ltOf at *;rw [cmpP_lt] at *;exact pless_trans h1 h2
 ntrans x y z h1 h2:=by
  unfold ltOf at *
  rw [cmpP_lt] at *
  cases h:pless x z
  ·rfl
  ·cases k:pless y x
   ·have e:=pless_tri h1 k
    rw [e,h2] at h;cases h
   ·rw [pless_trans k h] at h2;cases h2
theorem cmpLays (blk off size:Nat) (w:World):Go.Proofs.CmpLays Tryz.prog 104 #[] encL 2 cmpP blk off size w :=
 fun _ _ _ _ x y=>purses_ext x.1 x.2 y.1 y.2 _
theorem hold2 {w:World} {base:Nat} {g cap:Nat} {n:Nat} {l:List Pu} (h:OwnP base l (.slice (some ⟨g,0,none⟩) n cap) w) (hn:l≠[]):HoldsK encL 2 w g 0 l.toArray∧g<w.heap.size∧base≤g:=by
 have h1:=SL.own (lo:=0) encL 2 encL_len (by decide) h
 rcases h.2 with ⟨e,_⟩ | ⟨g',cap',cur,e,hbase,hg,hnc,_,hcs,ht⟩
 ·cases e
 ·have eg:g=g':=by simp at e;exact e.1
  subst eg
  have hfz:∀ o,w.frozen? ⟨g,o,none⟩=false:=fun o=>by simp [World.frozen?,hg]
  have hat:At encL 2 l g 0 w:=by
   rcases h1.2.cases with ⟨e2,_⟩ | ⟨_,b,off,c,e2,hat⟩
   ·exact absurd e2 hn
   ·simp at e2
    obtain ⟨⟨rfl,rfl⟩,_⟩:=e2
    exact hat
  refine ⟨fun t ht2=>⟨?_,hfz _⟩,hat.1,hbase⟩
  rw [size_flatK] at ht2
  rw [get_flatK _ _ _ _ ht2]
  have hlt:t / 2<l.length:=by simp at ht2;omega
  have:=hat.2 (t / 2) l[t / 2] (List.getElem?_eq_getElem hlt) (t % 2) (encL l[t / 2])[t % 2]! (by
   have h2:t % 2<2:=Nat.mod_lt _ (by decide)
   have:t % 2=0∨t % 2=1:=by omega
   rcases this with e | e<;>rw [e]<;>rfl)
  rw [show 0+t / 2*2+t % 2=0+t by omega] at this
  rw [this]
  simp [hlt]
theorem at_holdsK {w:World} {g:Nat} {d:Array Pu} (h:HoldsK encL 2 w g 0 d) (hg:g<w.heap.size):At encL 2 d.toList g 0 w:=by
 refine ⟨hg,fun i x hx j u hu=>?_⟩
 obtain ⟨hi,rfl⟩:=List.getElem?_eq_some_iff.1 hx
 have hi2:i<d.size:=by simpa using hi
 have hj:j<2:=by
  rcases Nat.lt_or_ge j 2 with h | h
  ·exact h
  ·rw [List.getElem?_eq_none (by rw [encL_len];exact h)] at hu;cases hu
 have:=(h.cell (i:=i) (c:=j) hi2 hj).1
 rw [this]
 have e:d[i]! = d[i]:=getElem!_pos d i hi2
 rw [e]
 have:j=0∨j=1:=by omega
 rcases this with rfl | rfl<;>simpa [encL] using hu
theorem grown_sorted {w:World} {g n:Nat} {os:Array Obj} (d:Array Pu):w.grownBy (sortWorldK encL 2 w g 0 n d os) (some g):=by
 unfold sortWorldK putRowK
 refine ⟨rfl,rfl,rfl,by simp,fun k hk hne=>?_⟩
 rw [heap_grow_old _ _ (by simpa using hk)]
 have:g≠k:=fun e=>hne (by rw [e])
 simp [Go.Sort.putRow,mapBlock,Sort.ahead,Array.getElem?_modify,this]
def PL (ss:List Pu) (v:Value) (w:World):Prop:=∃ a c,v=.slice a ss.length c∧(ss=[]∨∃ g cur,a=some ⟨g,0,none⟩∧w.heap[g]?=some (.cells cur 50 (0,0))∧At encL 2 ss g 0 w)
theorem sorted_block {w:World} {g n:Nat} {os:Array Obj} {cur:Array Value} {d:Array Pu} (hb:w.heap[g]?=some (.cells cur 50 (0,0))) :
  ∃ cur',(sortWorldK encL 2 w g 0 n d os).heap[g]?=some (.cells cur' 50 (0,0)):=by
 unfold sortWorldK putRowK
 have hg:g<w.heap.size:=(Array.getElem?_eq_some_iff.1 hb).1
 rw [heap_grow_old _ _ (by simpa using hg)]
 simp [Go.Sort.putRow,mapBlock,Sort.ahead,Array.getElem?_modify,hb,onCells]
def SortedPost (D:DataW Unit) (w:World) (e:Ending) (w':World):Prop:=∃ (v:Value) (ss:List Pu),e=.returned v∧Keys Tryz.prog 50 encP D ss∧ss.Pairwise (fun a b=>pless a b=true)∧PL ss v w'∧ss.length≤1000000∧Below w.heap.size w w'
theorem sorted_pairwise {ss:List Pu} {d:Array Pu} (hp:PermIn 0 ss.toArray.size ss.toArray d) (hs:SortedIn (ltOf cmpP) 0 ss.toArray.size d) (hn:ss.Nodup):d.toList.Perm ss∧d.toList.Pairwise (fun a b=>pless a b=true):=by
 have hsz:d.size=ss.length:=by simpa using hp.1
 have hpm:d.toList.Perm ss:=by
  have:=hp.2.2
  have e1:d.extract 0 ss.toArray.size=d:=by rw [show ss.toArray.size=d.size by simp [hsz]];simp
  have e2:ss.toArray.extract 0 ss.toArray.size=ss.toArray:=by simp
  rw [e1,e2] at this
  simpa using this
 refine ⟨hpm,List.pairwise_iff_getElem.2 fun i j hi hj hij=>?_⟩
 have hi2:i<d.size:=by simpa using hi
 have hj2:j<d.size:=by simpa using hj
 have h1:=hs i j (Nat.zero_le _) hij (by simp;omega)
 rw [getElem!_pos d i hi2,getElem!_pos d j hj2] at h1
 unfold ltOf at h1
 rw [cmpP_lt] at h1
 simp only [Array.getElem_toList]
 cases h2:pless d[i] d[j]
 ·have e:=pless_tri h1 h2
  have hnd:=hpm.nodup_iff.2 hn
  have:=List.pairwise_iff_getElem.1 hnd i j hi hj hij
  simp only [Array.getElem_toList] at this
  exact absurd e.symm this
 ·rfl
theorem sorted_any (Bm b nn:Nat) (D:DataW Unit) (g:Pu→Int) (w:World) (h:MQ g b nn D w) (hBm:Bm<w.heap.size) (hm:w.cell? ⟨Bm,0,none⟩=some (.map (some b))) (hN:Maps.size D≤1000000) :
  Calls Tryz.prog 227 #[.func (.func 241) #[] #[.pointer (some ⟨Bm,0,none⟩)],.func (.func 104) #[] #[]] w (SortedPost D w):=by
 have hseq:SeqStopsK Fence.wide (5 - 1 - 1) Tryz.prog 241 #[.pointer (some ⟨Bm,0,none⟩)] (fun x:Pu=>#[.agg #[.int .i64 x.1,.int .i64 x.2]]) KeepsWalks (Keys Tryz.prog 50 encP D) (fun _=>True) (Maps.size D) w:=keys_stops Fence.wide 3 trivial rfl (by decide) Bm b nn D w hBm hm h.2.1
 have hC:=(callsIn_wide (n:=5)).1 (collect_in Fence.wide 5 trivial trivial rfl (by decide) _ _ trivial (enters_of Tryz.func241 (by kernel_rfl) rfl) _ _ hN w hseq)
 have HC:=lH hC
 have HN:=lH hN
 clear hseq hC h hm hN
 go_enter Tryz.func227,Tryz.ntmps227
 go_wp2_with fail
 refine HC.out.mono ?_
 rintro e w1 ⟨v,ss,rfl,hK,hown,hb1,hln⟩
 have eg:∀ args w,(callFunc 104 args).run Tryz.prog w=.ok (.enter 104 args) w:=enters_of Tryz.func104 (by kernel_rfl) rfl
 have HK:=lH hK
 clear hK
 by_cases hss:ss=[]
 ·subst hss
  obtain ⟨p,cap,rfl⟩:∃ p cap,v=.slice p 0 cap:=by
   obtain ⟨a,c,hv,_⟩:=(SL.own (lo:=0) encL 2 encL_len (by decide) hown).2
   exact ⟨a,c,hv⟩
  have hS:=AnyF.slices_SortFunc_none Tryz.sortP p cap (.func (.func 104) #[] #[]) w1
  change Calls Tryz.prog 240 _ _ _ at hS
  have HS:=lH hS
  clear hS hown eg
  go_wp2_with fail
  refine HS.out.mono ?_
  rintro e w2 ⟨rfl,rfl⟩
  go_wp2
  go_ret
  exact ⟨_,[],rfl,HK.out,List.Pairwise.nil,⟨_,_,rfl,.inl rfl⟩,by simp,hb1⟩
 ·obtain ⟨g,cap,rfl⟩:∃ g cap,v=.slice (some ⟨g,0,none⟩) ss.length cap:=by
   rcases hown.2 with ⟨_,h0⟩ | ⟨g,cap,_,rfl,_⟩
   ·exact absurd (List.eq_nil_of_length_eq_zero h0) hss
   ·exact ⟨g,cap,rfl⟩
  obtain ⟨hH,hgl,hbase⟩:=hold2 hown hss
  obtain ⟨cur,hcur⟩:∃ cur,w1.heap[g]?=some (.cells cur 50 (0,0)):=by
   rcases hown.2 with ⟨e,_⟩ | ⟨g',cap',cur,e,_,hg,_⟩
   ·cases e
   ·simp at e;rw [e.1];exact ⟨cur,hg⟩
  have HCu:=lH hcur
  clear hcur
  have hN1:=HN.out
  have hlen:ss.length<4611686018427387904:=by omega
  clear hN1
  have hS:=AnyQ.slices_SortFunc Tryz.sortP 2 Tryz.isAgg50 Tryz.sizeOf50 encL encL_len encL_one cmpP swoP 104 #[] g 0 cap ss.toArray w1 eg (cmpLays g 0 _ w1) hH hgl (by simpa using hlen)
  change Calls Tryz.prog 240 _ _ _ at hS
  rw [show ss.toArray.size=ss.length by simp] at hS
  have HH:=lH hH
  have HS:=lH hS
  clear hS hown eg hH hlen hss
  go_wp2_with fail
  refine HS.out.mono ?_
  rintro e w2 ⟨rfl,d,n,os,hp,hs,rfl⟩
  have hq:=sorted_pairwise (by simpa using hp) (by simpa using hs) HK.out.1
  have hH2:=holdsK_sortWorldK_c encL 2 w1 g 0 ss.toArray d n os HH.out hgl (by simpa using hp.1)
  have hsz:=size_sortWorldK_c encL 2 w1 g 0 n d os
  have hat:=at_holdsK hH2 (by omega)
  have el:d.toList.length=ss.length:=hq.1.length_eq
  obtain ⟨cur',hcur'⟩:=sorted_block (n:=n) (os:=os) (d:=d) HCu.out
  have hsl:PL d.toList (.slice (some ⟨g,0,none⟩) ss.length cap) (sortWorldK encL 2 w1 g 0 n d os):=⟨_,cap,by rw [el],.inr ⟨g,cur',rfl,hcur',hat⟩⟩
  have hbw:Below w.heap.size w (sortWorldK encL 2 w1 g 0 n d os):=hb1.grown (grown_sorted d) hb1.size (fun j hj=>by cases hj;exact hbase)
  have HSL:=lH hsl
  have HQ:=lH hq
  have HL:Hid (d.toList.length≤1000000):=lH (by rw [el];exact Nat.le_trans hln HN.out)
  clear hsl hq hH2 hat hp hs el hln hcur'
  go_wp2
  go_ret
  exact ⟨_,d.toList,rfl,HK.out.perm HQ.out.1,HQ.out.2,HSL.out,HL.out,hbw⟩
variable {lo:Nat}
def toL (g:Pu→Int) (ss:List Pu):List Hd:=(ss.filter fun p=>decide (0<g p)).map fun p=>(p.1,p.2,g p)
theorem toL_cons (g:Pu→Int) (p:Pu) (ss:List Pu):toL g (p :: ss)=(if 0<g p then [(p.1,p.2,g p)] else [])++toL g ss:=by
 unfold toL
 by_cases e:0<g p
 ·rw [if_pos e,List.filter_cons_of_pos (by simpa using e)];rfl
 ·rw [if_neg e,List.filter_cons_of_neg (by simpa using e)];rfl
theorem toL_take {g:Pu→Int} {ss:List Pu} {k:Nat} (h:k<ss.length):toL g (ss.take (k+1))=toL g (ss.take k)++(if 0<g ss[k] then [(ss[k].1,ss[k].2,g ss[k])] else []):=by
 unfold toL
 rw [take_snoc h,List.filter_append,List.map_append]
 by_cases e:0<g ss[k]
 ·rw [if_pos e,List.filter_cons_of_pos (by simpa using e)];rfl
 ·rw [if_neg e,List.filter_cons_of_neg (by simpa using e)];rfl
theorem toL_len (g:Pu→Int) (ss:List Pu):(toL g ss).length≤ss.length:=by
 unfold toL;rw [List.length_map];exact List.length_filter_le _ _
theorem toL_right {g:Pu→Int} {ss:List Pu} (hp:∀ p∈ss,pmay p=true∧g p≤1125899906842624) (hs:ss.Pairwise fun a b=>pless a b=true):Right (toL g ss):=by
 refine ⟨fun h hm=>?_,?_⟩
 ·obtain ⟨p,hp2,rfl⟩:=List.mem_map.1 hm
  obtain ⟨h1,h2⟩:=List.mem_filter.1 hp2
  have h3:0<g p:=by simpa using h2
  exact good_iff.2 ⟨(hp p h1).1,by show 1≤g p;omega,(hp p h1).2⟩
 ·exact List.pairwise_map.2 (hs.filter _)
theorem toL_get {g:Pu→Int}:∀ {ss:List Pu} (_hs:ss.Pairwise fun a b=>pless a b=true) (_hg:∀ p∈ss,0≤g p) (q:Pu),get (toL g ss) q=if q∈ss then g q else 0
 | [],_,_,q=>by simp [toL,get]
 | p :: ss,hs,hg,q=>by
  rw [List.pairwise_cons] at hs
  have ih:=toL_get hs.2 (fun x hx=>hg x (List.mem_cons_of_mem _ hx)) q
  have h0:=hg p List.mem_cons_self
  rw [toL_cons]
  by_cases e:q=p
  ·subst e
   rw [if_pos List.mem_cons_self]
   by_cases e2:0<g q
   ·rw [if_pos e2,List.singleton_append,get,key_mk,if_pos rfl];rfl
   ·rw [if_neg e2,List.nil_append,ih,if_neg (fun hm=>by have:=hs.1 q hm;rw [pless_irrefl] at this;cases this)];omega
  ·have e3:(q∈p :: ss)=(q∈ss):=by simp [e]
   simp only [e3]
   by_cases e2:0<g p
   ·rw [if_pos e2,List.singleton_append,get,key_mk,if_neg (fun x=>e x.symm),ih]
   ·rw [if_neg e2,List.nil_append,ih]
theorem size_le {b n:Nat} {D:DataW Unit} {g:Pu→Int} {w:World} (h:MQ g b n D w):Maps.size D≤n:=by
 obtain ⟨_,⟨es,c,_,_,hs,hD⟩,_⟩:=h
 subst hD
 rw [size_eq,length_sorted,List.length_map,Array.length_toList]
 exact hs
theorem toL_all {b n:Nat} {D:DataW Unit} {g:Pu→Int} {w:World} {ss:List Pu} (h:MQ g b n D w) (hk:Keys Tryz.prog 50 encP D ss) (hs:ss.Pairwise fun a b=>pless a b=true) (hg:∀ p,pmay p=true→0≤g p∧g p≤1125899906842624) :
  Right (toL g ss)∧(∀ p∈ss,pmay p=true)∧∀ q,get (toL g ss) q=if pmay q=true then g q else 0:=by
 have hm:∀ p∈ss,pmay p=true:=fun p hp=>by
  obtain ⟨kl,h1,h2⟩:=hk.2.1 p hp
  obtain ⟨q,hq,e⟩:=h.isKey keyedQ h1 h2
  rw [encP_inj e];exact hq
 refine ⟨toL_right (fun p hp=>⟨hm p hp,(hg p (hm p hp)).2⟩) hs,hm,fun q=>?_⟩
 rw [toL_get hs (fun p hp=>(hg p (hm p hp)).1)]
 by_cases e:q∈ss
 ·rw [if_pos e,if_pos (hm q e)]
 ·rw [if_neg e]
  by_cases e2:pmay q=true
  ·rw [if_pos e2]
   obtain ⟨kl,hkl⟩:=keyQ e2
   cases hh:has D kl
   ·exact (h.none ⟨q,e2,rfl⟩ hkl hh).symm
   ·obtain ⟨x,hx,hx2⟩:=hk.2.2 kl hh
    have:=keyedQ.inj hx2 hkl
    rw [encP_inj this] at hx
    exact absurd hx e
  ·rw [if_neg e2]
theorem at2 {l:List Pu} {b off:Nat} {w:World} (h:At encL 2 l b off w) (i:Nat) (hi:i<l.length) :
  w.cell? ⟨b,off+i*2,none⟩=some (.int .i64 l[i].1)∧w.cell? ⟨b,off+i*2+1,none⟩=some (.int .i64 l[i].2) :=
 have e:=List.getElem?_eq_getElem hi
 ⟨h.2 i _ e 0 _ rfl,h.2 i _ e 1 _ rfl⟩
theorem Own.stays {B:Nat} {l:List Hd} {v:Value} {w w':World} (h:Own B l v w) (hb:Below w.heap.size w w'):Own B l v w':=by
 refine ⟨h.1,?_⟩
 rcases h.2 with h | ⟨g,cap,cur,h1,h2,h3,h4⟩
 ·exact .inl h
 ·exact .inr ⟨g,cap,cur,h1,h2,(hb.block g (Array.getElem?_eq_some_iff.1 h3).1).trans h3,h4⟩
theorem Own.apart {B:Nat} {l:List Hd} {v:Value} {w:World} (h:Own B l v w) {g:Nat} {cur:Array Value} {fr:Nat × Nat} (hg:w.heap[g]?=some (.cells cur 50 fr)):some g≠v.ownBlock:=by
 rcases h.2 with ⟨rfl,_⟩ | ⟨g',cap,cur',rfl,_,h3,_⟩
 ·simp [Value.ownBlock]
 ·intro e
  obtain rfl:g=g':=by simpa [Value.ownBlock] using e
  rw [hg] at h3
  simp at h3
def AllOf (lo:Nat) (g:Pu→Int) (w:World) (e:Ending) (w':World):Prop:=∃ (v:Value) (L:List Hd),e=.returned v∧HL lo L v w'∧Right L∧(∀ q,get L q=if pmay q=true then g q else 0)∧Below w.heap.size w w'
theorem holdings_any (b n:Nat) (D:DataW Unit) (g:Pu→Int) (w:World) (h:MQ g b n D w) (hn:n≤1000000) (hg:∀ p,pmay p=true→0≤g p∧g p≤1125899906842624) :
  Calls Tryz.prog 203 #[.map (some b)] w (AllOf lo g w):=by
 obtain ⟨i0,hi,hz0,hz1,hz2⟩:=info_parts infoH
 have HM:=lH h
 have HN:=lH hn
 have HG:=lH hg
 have HMd:Hid (Own w.heap.size [] (.slice (some ⟨w.heap.size,0,none⟩) 0 0) (w.alloc (.cells #[] 52))):=lH (own_made w)
 clear h hn hg
 go_enter Tryz.func203,Tryz.ntmps203
 go_wp2_with fail
 refine ((callsIn_wide (n:=1)).1 (keys_in Fence.wide 1 trivial rfl (some b) _)).mono ?_
 rintro e w1 ⟨rfl,hw1⟩
 have hb1:Below w.heap.size w w1:=by rw [hw1];exact below2 _ _ _
 have h01:Below (w.alloc (.cells #[] 52)).heap.size (w.alloc (.cells #[] 52)) w1:=by rw [hw1];exact below1 _ _
 have hc:w1.cell? ⟨w.heap.size+1,0,none⟩=some (.map (some b)):=by rw [hw1];simp [go_sem]
 have hz:w.heap.size+1<w1.heap.size:=by rw [hw1];simp
 have HC:=lH (sorted_any (w.heap.size+1) b n D g w1 (HM.out.stays hb1) hz hc (Nat.le_trans (size_le HM.out) HN.out))
 have HO1:Hid (Own w.heap.size [] (.slice (some ⟨w.heap.size,0,none⟩) 0 0) w1):=lH (by rw [hw1];exact (HMd.out).alloc _)
 clear hw1 hc HMd
 go_wp2_with fail
 refine HC.out.mono ?_
 rintro e w2 ⟨v,ss,rfl,hk,hs,hpl,hln,hb2⟩
 have HL:=lH (toL_all HM.out hk hs HG.out)
 have hbw:Below w.heap.size w w2:=nx hb1 hb2
 have HO2:Hid (Own w.heap.size [] (.slice (some ⟨w.heap.size,0,none⟩) 0 0) w2):=lH (HO1.out.stays hb2)
 obtain ⟨a,c,rfl,hat⟩:=hpl
 have HK:=lH hk
 clear hk hs HO1 h01 hb1 hb2 HC
 by_cases hss:ss=[]
 ·subst hss
  clear hat
  go_wp2
  go_loopw [3,12] (fun t i wr=>i=.int .i64 0∧t=.slice (some ⟨w.heap.size,0,none⟩) 0 0∧wr=w2) (fun _ i _=>0)
  case atStart=>exact ⟨rfl,rfl,rfl⟩
  case round =>
   obtain ⟨rfl,rfl,rfl⟩:=hrel
   go_wp2
   go_ret
   exact ⟨_,toL g [],rfl,SL.empty enc 3 52 _ _ _,HL.out.1,HL.out.2.2,hbw⟩
 ·rcases hat with e | ⟨gb,cur,rfl,hcur,hat⟩
  ·exact absurd e hss
  ·have HA:=lH hat
   have HCu:=lH hcur
   obtain ⟨m,hm⟩:∃ m,m=ss.length:=⟨_,rfl⟩
   rw [← hm] at hln ⊢
   have HMn:=lH hm
   have hgb:gb<w2.heap.size:=hat.1
   clear hat hcur hm hss
   go_wp2
   go_loopw [3,12] (fun t i wr=>∃ k:Nat,k≤m∧i=.int .i64 k∧Below w.heap.size w wr∧Own w.heap.size (toL g (ss.take k)) t wr∧wr.heap[gb]?=some (.cells cur 50 (0,0))) (fun _ i _=>m - (intOf i).toNat)
   case atStart=>exact ⟨0,Nat.zero_le _,rfl,hbw,HO2.out,HCu.out⟩
   case round =>
    obtain ⟨k,hk,rfl,hb,hown,hcu⟩:=hrel
    have HO:=lH hown
    have HCr:=lH hcu
    clear hown hcu
    by_cases hlt:k<m
    ·have hlt2:(k:Int)<m:=by omega
     have hks:k<ss.length:=by rw [← HMn.out];exact hlt
     obtain ⟨⟨x,y⟩,hx⟩:∃ x,ss[k]=x:=⟨_,rfl⟩
     have hgr:gb<wr.heap.size:=(Array.getElem?_eq_some_iff.1 HCr.out).1
     have hq:∀ o,wr.cell? ⟨gb,o,none⟩=w2.cell? ⟨gb,o,none⟩:=fun o=>by
      have h1:=HCr.out
      have h2:=HCu.out
      simp [World.cell?,h1,h2]
     have hc:=at2 HA.out k hks
     have ht:=toL_take (g:=g) hks
     rw [hx] at hc ht
     simp only [Nat.zero_add] at hc
     rw [← hq,← hq] at hc
     obtain ⟨q0,q1⟩:=hc
     have hp:pmay (x,y)=true:=by rw [← hx];exact HL.out.2.1 _ (List.getElem_mem hks)
     obtain ⟨z,hz⟩:∃ z,g (x,y)=z:=⟨_,rfl⟩
     have hlk:=MQ.look (HM.out.stays (hb.trans (((Below.refl _ wr).alloc (Nat.le_refl _) (.cells #[.int .i64 x,.int .i64 y] 50)).mono hb.size))) hp
     rw [hz] at hlk ht
     have HTk:Hid (toL g (ss.take (k+1))=toL g (ss.take k)++if 0<z then [(x,y,z)] else []):=lH ht
     have hsz:=hb.size
     clear hx ht hq hz hp
     by_cases he:0<z
     ·have HE:=lH he
      have hlen:=toL_len g (ss.take k)
      have hlen2:(ss.take k).length≤k:=List.length_take_le _ _
      have hbA:=(hb.alloc (by omega) (.cells #[.int .i64 x,.int .i64 y] 50)).alloc (by simp;omega) (.cells #[.int .i64 x,.int .i64 y,.int .i64 z] 52)
      go_wp2_with (at_builtin;refine wpList_append_own _ rfl _ _ 24 rfl (w.heap.size) 52 i0 (.agg #[.int .i64 0,.int .i64 0,.int .i64 0]) 3 24 Tryz.underlying24 hi hz0 hz1 hz2 rfl (by decide) _ _ _ rfl (HO.out.alloc _ |>.alloc _) (⟨wr.heap.size+1,0,none⟩) 1 1 (enc (x,y,z)) rfl rfl ?c1 ?c2 ?c3 ?c4 ?c5 ?_)
      case c1=>intro j u hj;rcases j with _ | _ | _ | _ | _ | _<;>simp [enc] at hj<;>subst hj<;>simp [Addr.add,go_sem]
      case c2=>intro u hu;simp [enc] at hu;rcases hu with rfl | rfl | rfl<;>rfl
      case c3=>unfold maxLen;omega
      case c4=>omega
      case c5=>have:=(hbA).size;simp at this ⊢;omega
      intro v2 w3 hown2 hg_ _
      have hb3:=(hbA).grown hg_ (by have:=(hbA).size;simp at this ⊢;omega) (fun k_ hk_=>((HO.out).lt k_ hk_).1)
      have hgx:=hg_
      have HO3:Hid (Own w.heap.size (toL g (ss.take (k+1))) v2 w3):=lH (by rw [HTk.out,if_pos HE.out];exact Own.snoc hown2)
      have HC3:Hid (w3.heap[gb]?=some (.cells cur 50 (0,0))):=lH (by
       rw [hgx.block gb (by simp;omega) (HO.out.apart HCr.out),Below.heap_alloc _ _ _ (by simp;omega),Below.heap_alloc _ _ _ hgr];exact HCr.out)
      clear hown2 hbA hgx
      go_wp2
      go_roundw
      case rel=>exact ⟨k+1,by omega,by go_num,hb3,HO3.out,HC3.out⟩
      case measure=>simp [intOf];omega
     ·have HE:=lH he
      have hd:decide (0<z)=false:=by simpa using he
      clear he
      have HO3:Hid (Own w.heap.size (toL g (ss.take (k+1))) u3 (wr.alloc (.cells #[.int .i64 x,.int .i64 y] 50))):=lH (by rw [HTk.out,if_neg HE.out,List.append_nil];exact HO.out.alloc _)
      have HC3:Hid ((wr.alloc (.cells #[.int .i64 x,.int .i64 y] 50)).heap[gb]?=some (.cells cur 50 (0,0))):=lH (by
       rw [Below.heap_alloc _ _ _ hgr];exact HCr.out)
      go_wp2
      go_roundw
      case rel=>exact ⟨k+1,by omega,by go_num,hb.alloc hsz _,HO3.out,HC3.out⟩
      case measure=>simp [intOf];omega
    ·obtain rfl:k=m:=by omega
     have e1:ss.take k=ss:=by rw [HMn.out,List.take_length]
     have ho:=HO.out
     rw [e1] at ho
     have HZ:=lH ho
     clear ho e1
     go_wp2
     go_ret
     exact ⟨_,toL g ss,rfl,HZ.out.hl,HL.out.1,HL.out.2.2,hb⟩
end Go.Proofs.YtjhocpcpkemcaaaGreat.Ac
namespace Go.Proofs.YtjhocpcpkemcaaaGreat.Ac
open Go.RowKit Go.Maps
open Rw
open Sl
open Mo (may may_iff addS addE subS subE add_any)
variable {lo:Nat}
theorem wfMay {a:Int} (h:may a=true):(Lit.int .i64 a).wf=true:=Go.WalkArith.wf_i64 (by have:=may_iff.1 h;omega)
def chE (E:Int→Int→Int) (l:List Hd) (p:Pu) (n:Int):Int:=if right l&&pmay p&&may n then E (get l p) n else 1
def chL (S E:Int→Int→Int) (l:List Hd) (p:Pu) (n:Int):List Hd:=if chE E l p n=0 then set l p (S (get l p) n) else l
theorem change_any (S E:Int→Int→Int) (f:Nat) (eg:∀ args w,(callFunc f args).run Tryz.prog w=.ok (.enter f args) w)
  (hop:∀ a n w,(Lit.int .i64 a).wf=true→(Lit.int .i64 n).wf=true→Calls Tryz.prog f #[.int .i64 a,.int .i64 n] w fun e w'=>e=.returned (.tuple #[.int .i64 (S a n),.int .i64 (E a n)])∧Below w.heap.size w w')
  (hS:∀ a n,may a=true→may n=true→E a n=0→may (S a n)=true)
  (l:List Hd) (v:Value) (p q n:Int) (w:World) (h:HL lo l v w) (hm:l.length≤1000000) :
  Calls Tryz.prog 181 #[v,.agg #[.int .i64 p,.int .i64 q],.int .i64 n,.func (.func f) #[] #[]] w (Post2 (HL lo (chL S E l (p,q) n)) (chE E l (p,q) n) w):=by
 have HM:=lH hm
 have HM':=lH hm
 have HH:=lH h
 have HP0:=lH hop
 have HS:=lH hS
 clear hm h hop hS
 obtain ⟨W,hW⟩:∃ W,W=w.alloc (.cells #[.int .i64 p,.int .i64 q] 50):=⟨_,rfl⟩
 have k0:W.cell? ⟨w.heap.size,0,none⟩=some (.int .i64 p):=by rw [hW];simp [go_sem]
 have k1:W.cell? ⟨w.heap.size,1,none⟩=some (.int .i64 q):=by rw [hW];simp [go_sem]
 have hbW:Below w.heap.size w W:=hW ▸ below1 w _
 have hz0:w.heap.size<W.heap.size:=by rw [hW];simp
 have HW:=lH hW
 have HF:Hid (∀ u,Below W.heap.size W u→u.cell? ⟨w.heap.size,0,none⟩=some (.int .i64 p)∧u.cell? ⟨w.heap.size,1,none⟩=some (.int .i64 q)∧w.heap.size<u.heap.size):=lH fun u hu =>
  ⟨by rw [hu.cell (p:=⟨w.heap.size,0,none⟩) hz0];exact k0,by rw [hu.cell (p:=⟨w.heap.size,1,none⟩) hz0];exact k1,Nat.lt_of_lt_of_le hz0 hu.size⟩
 have HH1:=lH (SL.stays enc 3 52 l v w _ HH.out hbW)
 clear hW k0 k1 hz0
 cases hr:right l
 ·have HR:=lH hr
  have hE:chE E l (p,q) n=1:=by unfold chE;rw [hr];rfl
  have HL0:Hid (chL S E l (p,q) n=l):=lH (by unfold chL;rw [hE,if_neg (by decide)])
  have HE:=lH hE
  clear hE hr
  rw [HE.out,HL0.out]
  go_enter Tryz.func181,Tryz.ntmps181
  go_wp2_with fail
  rw [← HW.out]
  refine (right_is HR _ HH1.out HM'.out).mono ?_
  rintro e w1 ⟨rfl,hb1⟩
  have HV:=lH (SL.stays enc 3 52 l v _ _ HH1.out hb1)
  go_wp2
  go_ret2
  exact ⟨_,rfl,nx hbW hb1,HV.out⟩
 ·have HR:=lH hr
  cases hp:pmay (p,q)
  ·have HP:=lH hp
   have hE:chE E l (p,q) n=1:=by unfold chE;rw [hr,hp];rfl
   have HL0:Hid (chL S E l (p,q) n=l):=lH (by unfold chL;rw [hE,if_neg (by decide)])
   have HE:=lH hE
   clear hE hr hp
   rw [HE.out,HL0.out]
   go_enter Tryz.func181,Tryz.ntmps181
   go_wp2_with fail
   rw [← HW.out]
   refine (right_is HR _ HH1.out HM'.out).mono ?_
   rintro e w1 ⟨rfl,hb1⟩
   obtain ⟨l0,l1,hz1⟩:=HF.out _ hb1
   go_wp2_with fail
   refine (purse_is HP _).mono ?_
   rintro e w2 ⟨rfl,hb2⟩
   have HV:=lH (SL.stays enc 3 52 l v _ _ HH1.out (nx hb1 hb2))
   go_wp2
   go_ret2
   exact ⟨_,rfl,nx hbW (nx hb1 hb2),HV.out⟩
  ·have HP:=lH hp
   cases hn:may n
   ·have HN:=lH hn
    have hE:chE E l (p,q) n=1:=by unfold chE;rw [hr,hp,hn];rfl
    have HL0:Hid (chL S E l (p,q) n=l):=lH (by unfold chL;rw [hE,if_neg (by decide)])
    have HE:=lH hE
    clear hE hr hp hn
    rw [HE.out,HL0.out]
    go_enter Tryz.func181,Tryz.ntmps181
    go_wp2_with fail
    rw [← HW.out]
    refine (right_is HR _ HH1.out HM'.out).mono ?_
    rintro e w1 ⟨rfl,hb1⟩
    obtain ⟨l0,l1,hz1⟩:=HF.out _ hb1
    go_wp2_with fail
    refine (purse_is HP _).mono ?_
    rintro e w2 ⟨rfl,hb2⟩
    go_wp2_with fail
    refine (may_is HN _).mono ?_
    rintro e w' ⟨rfl,rfl⟩
    have HV:=lH (SL.stays enc 3 52 l v _ _ HH1.out (nx hb1 hb2))
    go_wp2
    go_ret2
    exact ⟨_,rfl,nx hbW (nx hb1 hb2),HV.out⟩
   ·have HN:=lH hn
    have hR:=right_iff.1 hr
    have gp:=get_pos (p:=(p,q)) hR
    have hmg:may (get l (p,q))=true:=may_iff.2 ⟨gp.1,gp.2.1⟩
    have hE:chE E l (p,q) n=E (get l (p,q)) n:=by unfold chE;rw [hr,hp,hn];rfl
    have HE:=lH hE
    obtain ⟨a,ha⟩:∃ a,get l (p,q)=a:=⟨_,rfl⟩
    have HAg:=lH ha
    obtain ⟨s,hs⟩:∃ s,S a n=s:=⟨_,rfl⟩
    obtain ⟨x,hx⟩:∃ x,E a n=x:=⟨_,rfl⟩
    have HC:Hid (∀ w,Calls Tryz.prog f #[.int .i64 a,.int .i64 n] w fun e w'=>e=.returned (.tuple #[.int .i64 s,.int .i64 x])∧Below w.heap.size w w'):=lH fun w=>by
     rw [← hs,← hx];exact HP0.out a n w (wfMay (ha ▸ hmg)) (wfMay hn)
    have HRt:=lH hR
    rw [ha] at hE hmg
    rw [hx] at hE
    have hld:chL S E l (p,q) n=if x=0 then set l (p,q) s else l:=by unfold chL;rw [hE,ha,hs]
    have HLd:=lH hld
    clear hld
    have hmn:=hn
    have HSm:Hid (x=0→may s=true):=lH fun e=>by rw [← hs];exact HS.out a n hmg hmn (hx.trans e)
    rw [hE]
    clear hE hr hp hn hmn hR gp hmg ha hs hx
    go_enter Tryz.func181,Tryz.ntmps181
    go_wp2_with fail
    rw [← HW.out]
    refine (right_is HR _ HH1.out HM'.out).mono ?_
    rintro e w1 ⟨rfl,hb1⟩
    obtain ⟨l0,l1,hz1⟩:=HF.out _ hb1
    go_wp2_with fail
    refine (purse_is HP _).mono ?_
    rintro e w2 ⟨rfl,hb2⟩
    go_wp2_with fail
    refine (may_is HN _).mono ?_
    rintro e w' ⟨rfl,rfl⟩
    clear l0 l1 hz1
    have hb2:=nx hb1 hb2
    have HH2:=lH (SL.stays enc 3 52 l v _ _ HH1.out hb2)
    have HB:=lH (byPurse_any l v _ HH2.out HRt.out HM'.out)
    clear hb1
    go_wp2_with fail
    refine HB.out.mono ?_
    rintro e w3 ⟨b,nn,D,rfl,hnn,hM,hbb,hb3⟩
    have hszb:W.heap.size≤w2.heap.size:=hb2.size
    have hb3:=nx hb2 hb3
    obtain ⟨l0,l1,hz1⟩:=HF.out _ hb3
    have hlk:=MQ.look hM HP.out
    rw [HAg.out] at hlk
    have HMq:=lH hM
    have HNn:=lH hnn
    clear hM hnn hb2
    go_wp2_with fail
    refine (HC.out _).mono ?_
    rintro e w4 ⟨rfl,hb4⟩
    clear hlk l0 l1 hz1
    have hbx:=nx hb3 hb4
    by_cases he:x=0
    ·have HZ:=lH he
     have hd:(x != 0)=false:=by simpa using he
     clear he
     obtain ⟨l0,l1,hz1⟩:=HF.out _ hbx
     have hms:=HSm.out HZ.out
     obtain ⟨D2,w5,hput,hM5,hgr⟩:=MQ.put (HMq.out.stays hb4) (g:=fun u=>if u=(p,q) then s else get l u) (by have:=right_512 HRt.out;have:=HNn.out;unfold maxLen;omega) HP.out (c:=s) (wfMay hms) (if_pos rfl) (fun u hu=>if_neg hu)
     have hb5:Below W.heap.size W w5:=hbx.grown hgr hbx.size (fun j hj=>by cases hj;exact Nat.le_trans hszb hbb)
     have hh:=holdings_any (lo:=lo) b (nn+1) D2 (fun u=>if u=(p,q) then s else get l u) w5 hM5 (by have:=right_512 HRt.out;have:=HNn.out;omega) (fun u hu=>by
      by_cases e:u=(p,q)
      ·rw [if_pos e];exact may_iff.1 hms
      ·rw [if_neg e];have g:=get_pos (p:=u) HRt.out;exact ⟨g.1,g.2.1⟩)
     have HHd:=lH hh
     clear hh hM5 hgr
     go_wp2_with fail
     refine HHd.out.mono ?_
     rintro e w6 ⟨v6,L,rfl,hv6,hR6,hg6,hb6⟩
     have hbb6:=nx hb5 hb6
     have eL:L=set l (p,q) s:=set_unique HRt.out HP.out (may_iff.1 hms).1 (may_iff.1 hms).2 hR6 fun u=>by
      rw [hg6 u]
      by_cases e:u=(p,q)
      ·subst e;rw [if_pos HP.out]
      ·by_cases e2:pmay u=true
       ·rw [if_pos e2]
       ·rw [if_neg e2,if_neg e]
        have g:=get_pos (p:=u) HRt.out
        rcases Int.lt_or_eq_of_le g.1 with h1 | h1
        ·exact absurd (g.2.2 (by omega)) e2
        ·exact h1
     have HV:Hid (HL lo (chL S E l (p,q) n) v6 w6):=lH (by rw [HLd.out,if_pos HZ.out,← eL];exact hv6)
     clear hv6 hR6 hg6 eL hms
     go_wp2
     go_ret2
     exact ⟨v6,by rw [HZ.out];rfl,nx hbW hbb6,HV.out⟩
    ·have HZ:=lH he
     have hd:(x != 0)=true:=by simpa using he
     clear he
     have HV:Hid (HL lo (chL S E l (p,q) n) v w4):=lH (by rw [HLd.out,if_neg HZ.out];exact SL.stays enc 3 52 l v _ _ HH1.out hbx)
     go_wp2
     go_ret2
     exact ⟨_,rfl,nx hbW hbx,HV.out⟩
theorem add_may (a n:Int) (ha:may a=true) (hn:may n=true) (h:addE a n=0):may (addS a n)=true:=by
 have h1:=may_iff.1 ha
 have h2:=may_iff.1 hn
 unfold addE addS Mo.add2 at *
 rw [if_pos ⟨ha,hn⟩] at h ⊢
 split at h
 ·cases h
 ·rename_i hc
  rw [if_neg hc]
  exact may_iff.2 (by simp only;omega)
theorem sub_may (a n:Int) (ha:may a=true) (hn:may n=true) (h:subE a n=0):may (subS a n)=true:=by
 have h1:=may_iff.1 ha
 have h2:=may_iff.1 hn
 unfold subE subS Mo.sub2 at *
 rw [if_pos ⟨ha,hn⟩] at h ⊢
 split at h
 ·cases h
 ·rename_i hc
  rw [if_neg hc]
  exact may_iff.2 (by simp only;omega)
theorem give_any (l:List Hd) (v:Value) (p q n:Int) (w:World) (h:HL lo l v w) (hm:l.length≤1000000) :
  Calls Tryz.prog 148 #[v,.agg #[.int .i64 p,.int .i64 q],.int .i64 n] w (Post2 (HL lo (giveL l (p,q) n)) (giveE l (p,q) n) w):=by
 have HH:=lH (SL.stays enc 3 52 l v w _ h (below1 w (.cells #[.int .i64 p,.int .i64 q] 50)))
 have HM:=lH hm
 clear h hm
 obtain ⟨x,hE⟩:∃ x,giveE l (p,q) n=x:=⟨_,rfl⟩
 have HC:∀ w,HL lo l v w→Calls Tryz.prog 181 #[v,.agg #[.int .i64 p,.int .i64 q],.int .i64 n,.func (.func 182) #[] #[]] w (Post2 (HL lo (giveL l (p,q) n)) x w):=fun w h=>by
  rw [← hE];exact change_any addS addE _ (enters_of Tryz.func182 (by kernel_rfl) rfl) (fun a n w ha hn=>add_any a n ha hn w) add_may l v p q n w h HM.out
 have HC1:=lH HC
 rw [hE]
 clear hE HC
 go_enter Tryz.func148,Tryz.ntmps148
 go_wp2_with fail
 refine (HC1.out _ HH.out).mono ?_
 rintro e w1 ⟨v1,rfl,hb1,hv1⟩
 have HV:=lH hv1
 clear hv1
 go_wp2
 go_ret2
 exact ⟨_,rfl,nx (below1 _ _) hb1,HV.out⟩
theorem take_any (l:List Hd) (v:Value) (p q n:Int) (w:World) (h:HL lo l v w) (hm:l.length≤1000000) :
  Calls Tryz.prog 149 #[v,.agg #[.int .i64 p,.int .i64 q],.int .i64 n] w (Post2 (HL lo (takeL l (p,q) n)) (takeE l (p,q) n) w):=by
 have HH:=lH (SL.stays enc 3 52 l v w _ h (below1 w (.cells #[.int .i64 p,.int .i64 q] 50)))
 have HM:=lH hm
 clear h hm
 obtain ⟨x,hE⟩:∃ x,takeE l (p,q) n=x:=⟨_,rfl⟩
 have HC:∀ w,HL lo l v w→Calls Tryz.prog 181 #[v,.agg #[.int .i64 p,.int .i64 q],.int .i64 n,.func (.func 183) #[] #[]] w (Post2 (HL lo (takeL l (p,q) n)) x w):=fun w h=>by
  rw [← hE];exact change_any subS subE _ (enters_of Tryz.func183 (by kernel_rfl) rfl) (fun a n w ha hn=>Mo.sub_any a n ha hn w) sub_may l v p q n w h HM.out
 have HC1:=lH HC
 rw [hE]
 clear hE HC
 go_enter Tryz.func149,Tryz.ntmps149
 go_wp2_with fail
 refine (HC1.out _ HH.out).mono ?_
 rintro e w1 ⟨v1,rfl,hb1,hv1⟩
 have HV:=lH hv1
 clear hv1
 go_wp2
 go_ret2
 exact ⟨_,rfl,nx (below1 _ _) hb1,HV.out⟩
end Go.Proofs.YtjhocpcpkemcaaaGreat.Ac
