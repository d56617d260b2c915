/- A map of integers that the call makes, as a function of its keys. Of no program. -/
import Derived.Test.YthecinmekoaphaaGreatQbZZ
import Derived.Test.YthecinmekoaphaaGreatQbAB
import Derived.Maps.OwnOps
import Derived.Maps.Views
import Derived.WideKeyEntry
import Derived.DeepKeys4
import Derived.Maps.Range
import Derived.Test.YthecinmekoaphaaGreatQbAW
import Derived.RangeFuncNested
import Derived.RangeFuncBound
import Derived.RangeFuncCalls
import Derived.RangeFuncLeaves
import Derived.RangeFuncOne
import Derived.Sort.MapsRangeIn
import Derived.Shelf.AbstractIn
import Derived.Shelf.Abstract
import Derived.OwnWalkIn
import Derived.TacticsInMore
import Derived.LoopNIn
import Derived.LoopIn
import Derived.Maps.AppendAt
import Derived.Shelf.SlSortCmp.WholeK
import Derived.Shelf.SlGeneric
import Derived.Test.YthecinmekoaphaaGreatProg
import Derived.Shelf.SlSortCmp.NoneTotal
set_option linter.unusedVariables false
set_option maxRecDepth 16000
set_option maxHeartbeats 32000000
namespace Go.Proofs.YthecinmekoaphaaGreat.Mf
open Go Go.Maps Go.RowKit Go.ChangeMaps Go.MapKept
open Go.WideElems (Fit rd rg pl rd_val elemAt entry_then_store)
open Go.WideMaps (KeyLaw)
section
variable {P : Program} {k e t : TypeId} {Kd : Value→Prop}
def MF (P : Program) (k e : TypeId) (Kd : Value→Prop) (f : Value→Int) (b n : Nat) (w : World) : Prop :=
 ∃ D : DataW Unit,IsMap D∧w.ownsMap P k (plainElem P e) b n D∧∀ v kl,Kd v→keyOf P k v=some kl→D.atKey kl (.lit (.int .i64 0))=.lit (.int .i64 (f v))
theorem MF.look {f : Value→Int} {b n : Nat} {w : World} (h : MF P k e Kd f b n w) (K : Keyed P k) (ht : P.underlying t=some (.map k e)) (he : P.underlying e=some (.int .i64)) (hz : ∀ u : World,(zeroValue e).run P u=.ok (.int .i64 0) u) {key : Value} {kl : Lit} (hd : Kd key) (hkey : keyOf P k key=some kl) :
  (Instr.lookup t (.map (some b)) key false).run P w=.ok (.int .i64 (f key)) w∧(Lit.int .i64 (f key)).wf=true:=by
 obtain ⟨D,_,h1,h2⟩:=h
 obtain ⟨c,hr,ha,hw⟩:=h1.lookup_int K ht he (hz w) hkey
 have e1:=(h2 key kl hd hkey).symm.trans ha
 have e2 : f key=c:=by simpa using e1
 rw [e2];exact ⟨hr,hw⟩
end
end Go.Proofs.YthecinmekoaphaaGreat.Mf
namespace Go.Proofs.YthecinmekoaphaaGreat.Mg
open Go Go.Maps Go.RowKit Go.Proofs.YthecinmekoaphaaGreat.Mf
section
variable {P : Program} {k e t : TypeId} {Kd : Value→Prop}
def MK (P : Program) (k e : TypeId) (Kd : Value→Prop) (f : Value→Int) (b n : Nat) (D : DataW Unit) (w : World) : Prop :=
 IsMap D∧w.ownsMap P k (plainElem P e) b n D∧(∀ v kl,Kd v→keyOf P k v=some kl→D.atKey kl (.lit (.int .i64 0))=.lit (.int .i64 (f v)))∧∀ kl,has D kl=true→∃ v,Kd v∧keyOf P k v=some kl
theorem MK.mf {f : Value→Int} {b n : Nat} {D : DataW Unit} {w : World} (h : MK P k e Kd f b n D w) : MF P k e Kd f b n w:=⟨D,h.1,h.2.1,h.2.2.1⟩
theorem MK.lt {f : Value→Int} {b n : Nat} {D : DataW Unit} {w : World} (h : MK P k e Kd f b n D w) : b<w.heap.size:=h.2.1.lt
theorem MK.same {f : Value→Int} {b n : Nat} {D : DataW Unit} {w w' : World} (h : MK P k e Kd f b n D w) (hb : w'.heap[b]?=w.heap[b]?) : MK P k e Kd f b n D w':=by
 obtain ⟨h1,⟨es,c,h2,h3⟩,h4⟩:=h
 exact ⟨h1,⟨es,c,hb.trans h2,h3⟩,h4⟩
theorem MK.stays {f : Value→Int} {b n : Nat} {D : DataW Unit} {w w' : World} (h : MK P k e Kd f b n D w) (hb : Below w.heap.size w w') : MK P k e Kd f b n D w':=h.same (hb.block b h.lt)
theorem MK.congr {f g : Value→Int} {b n : Nat} {D : DataW Unit} {w : World} (h : MK P k e Kd f b n D w) (hf : ∀ v,Kd v→g v=f v) : MK P k e Kd g b n D w :=
 ⟨h.1,h.2.1,fun v kl hd hk=>by rw [hf v hd];exact h.2.2.1 v kl hd hk,h.2.2.2⟩
theorem MK.made (w : World) : MK P k e Kd (fun _=>0) w.heap.size 0 (.map []) (w.alloc (.map #[] 0)) :=
 ⟨isMap_empty,World.ownsMap_made _ _ _ _,fun _ _ _ _=>rfl,fun kl h=>by simp [has] at h⟩
theorem MK.put {f g : Value→Int} {b n : Nat} {D : DataW Unit} {w : World} (h : MK P k e Kd f b n D w) (K : Keyed P k) (ht : P.underlying t=some (.map k e)) (he : P.underlying e=some (.int .i64)) (hn : n<maxLen) {key : Value} {kl : Lit} (hd : Kd key) (hkey : keyOf P k key=some kl)
  {c : Int} (hc : (Lit.int .i64 c).wf=true) (hg : g key=c) (ho : ∀ u,Kd u→u≠key→g u=f u) :
  ∃ D' w',(Instr.mapUpdate t (.map (some b)) key (.int .i64 c)).run P w=.ok () w'∧MK P k e Kd g b (n+1) D' w'∧w.grownBy w' (some b):=by
 obtain ⟨hD,h1,h2,h3⟩:=h
 obtain ⟨w',hr,h4,h5⟩:=h1.update K ht hn hkey (plainElem_int he hc)
 refine ⟨_,w',hr,⟨hD.put kl _,h4,fun u ku hd' hu=>?_,fun ku hu=>?_⟩,h5⟩
 ·by_cases hk : ku=kl
  ·subst hk
   have : u=key:=K.inj hu hkey
   subst this
   rw [atKey_put_same hD (K.key hkey),hg]
  ·rw [atKey_put_other hk,ho u hd' (fun e1=>hk (by subst e1;rw [hkey] at hu;exact (Option.some.inj hu).symm))]
   exact h2 u ku hd' hu
 ·by_cases hk : ku=kl
  ·exact ⟨key,hd,hk ▸ hkey⟩
  ·rw [has_put_other hk] at hu
   exact h3 ku hu
theorem MK.isKey {f : Value→Int} {b n : Nat} {D : DataW Unit} {w : World} (h : MK P k e Kd f b n D w) (K : Keyed P k) {v : Value} {kl : Lit} (hv : keyOf P k v=some kl) (hh : has D kl=true) : Kd v:=by
 obtain ⟨u,hu,hk⟩:=h.2.2.2 kl hh
 rw [K.inj hv hk];exact hu
theorem MK.none {f : Value→Int} {b n : Nat} {D : DataW Unit} {w : World} (h : MK P k e Kd f b n D w) {v : Value} {kl : Lit} (hd : Kd v) (hv : keyOf P k v=some kl) (hh : has D kl=false) : f v=0:=by
 have:=h.2.2.1 v kl hd hv
 rw [atKey_of_not_has hh] at this
 simpa using this.symm
end
section
variable {P : Program} {k : TypeId} {α : Type} {enc : α→Value} {D : DataW Unit} {left : Lit→Bool} {ss : List α}
def Coll (P : Program) (k : TypeId) (enc : α→Value) (D : DataW Unit) (left : Lit→Bool) (ss : List α) : Prop :=
 ss.Nodup∧(∀ x∈ss,∃ kl,keyOf P k (enc x)=some kl∧has D kl=true∧left kl=false)∧∀ kl,has D kl=true→left kl=false→∃ x∈ss,keyOf P k (enc x)=some kl
theorem Coll.start (P : Program) (k : TypeId) (enc : α→Value) (D : DataW Unit) : Coll P k enc D (has D) [] :=
 ⟨List.nodup_nil,by simp,fun kl h1 h2=>by rw [h1] at h2;cases h2⟩
theorem Coll.step (h : Coll P k enc D left ss) (K : Keyed P k) {x : α} {kl : Lit} {y : DataW Unit} (hkey : keyOf P k (enc x)=some kl) (hlk : left kl=true) (hat : ∀ zd,D.atKey kl zd=y) : Coll P k enc D (fun z=>left z&&!z.sameKey kl) (ss++[x]):=by
 have hhas : has D kl=true:=has_true_of_atKey hat
 have hself:=WideAt.sameKey_self (K.key hkey)
 have hnew : x ∉ ss:=fun hx=>by
  obtain ⟨kl',h1,_,h3⟩:=h.2.1 x hx
  rw [hkey] at h1
  obtain rfl:=Option.some.inj h1
  rw [hlk] at h3;cases h3
 refine ⟨List.nodup_append.2 ⟨h.1,by simp,fun a ha b hb=>by simp at hb;subst hb;exact fun e=>hnew (e ▸ ha)⟩,fun z hz=>?_,fun kz h1 h2=>?_⟩
 ·rcases List.mem_append.1 hz with hz | hz
  ·obtain ⟨kl',h1,h2,h3⟩:=h.2.1 z hz
   exact ⟨kl',h1,h2,by simp [h3]⟩
  ·simp at hz
   subst hz
   exact ⟨kl,hkey,hhas,by simp [hself]⟩
 ·rcases Bool.eq_false_or_eq_true (left kz) with hl | hl
  ·have hs : kz.sameKey kl=true:=by
    rcases Bool.eq_false_or_eq_true (kz.sameKey kl) with hs | hs
    ·exact hs
    ·simp [hl,hs] at h2
   have : kz=kl:=(WideAt.sameKey_iff (K.key hkey)).1 hs
   subst this
   exact ⟨x,by simp,hkey⟩
  ·obtain ⟨z,hz,hk⟩:=h.2.2 kz h1 hl
   exact ⟨z,List.mem_append_left _ hz,hk⟩
def Keys (P : Program) (k : TypeId) (enc : α→Value) (D : DataW Unit) (ss : List α) : Prop :=
 ss.Nodup∧(∀ x∈ss,∃ kl,keyOf P k (enc x)=some kl∧has D kl=true)∧∀ kl,has D kl=true→∃ x∈ss,keyOf P k (enc x)=some kl
theorem Coll.all (h : Coll P k enc D left ss) (hl : ∀ kl,left kl=false) : Keys P k enc D ss :=
 ⟨h.1,fun x hx=>by obtain ⟨kl,h1,h2,_⟩:=h.2.1 x hx;exact ⟨kl,h1,h2⟩,fun kl h1=>h.2.2 kl h1 (hl kl)⟩
theorem Keys.perm {ss ts : List α} (h : Keys P k enc D ss) (hp : ts.Perm ss) : Keys P k enc D ts :=
 ⟨hp.nodup_iff.2 h.1,fun x hx=>h.2.1 x (hp.mem_iff.1 hx),fun kl h1=>by obtain ⟨x,hx,hk⟩:=h.2.2 kl h1;exact ⟨x,hp.mem_iff.2 hx,hk⟩⟩
end
end Go.Proofs.YthecinmekoaphaaGreat.Mg
namespace Go.Proofs.YthecinmekoaphaaGreat.Ac
open Go.RowKit Go.Maps
open Go.ChangeMaps Go.ChangeShapes Go.WideShapes
open Rw
open Mg
def encP (p : Pu) : Value:=.agg #[.int .i64 p.1,.int .i64 p.2]
theorem encP_inj {p q : Pu} (h : encP p=encP q) : p=q:=by
 obtain ⟨a,b⟩:=p
 obtain ⟨c,d⟩:=q
 simp [encP] at h
 rw [h.1,h.2]
def KQ (v : Value) : Prop:=∃ p,pmay p=true∧v=encP p
theorem laidOutQ : laidOutB Tryz.prog=true:=by kernel_rfl
theorem lawQ : Go.WideMaps.KeyLaw Tryz.prog 53:=deep_law_laid laidOutQ (m:=2) (by omega) (of_decide_eq_true (by kernel_rfl)) (by kernel_rfl) (by kernel_rfl)
theorem keyedQ : Keyed Tryz.prog 53:=Keyed.of_law lawQ
theorem zeroQ (w : World) : (zeroValue 3).run Tryz.prog w=.ok (.int .i64 0) w:=by kernel_rfl
noncomputable def litQ (a s : Nat) : Option Lit:=keyOf Tryz.prog 53 (.agg #[.int .i64 a,.int .i64 s])
theorem litQ_all : ((List.range 64).all fun a=>(List.range 8).all fun s=>(litQ a s).isSome)=true:=by kernel_rfl
theorem keyQ {p : Pu} (h : pmay p=true) : ∃ kl,keyOf Tryz.prog 53 (encP p)=some kl:=by
 obtain ⟨h1,h2,h3,h4⟩:=pmay_iff.1 h
 obtain ⟨a,ha⟩ : ∃ a : Nat,p.1=a:=⟨p.1.toNat,by omega⟩
 obtain ⟨s,hs⟩ : ∃ s : Nat,p.2=s:=⟨p.2.toNat,by omega⟩
 have e1:=List.all_eq_true.1 litQ_all a (List.mem_range.2 (by omega))
 have e2:=List.all_eq_true.1 e1 s (List.mem_range.2 (by omega))
 unfold encP
 rw [ha,hs]
 exact Option.isSome_iff_exists.1 e2
theorem cellsQ : Tryz.prog.cellsOf 53=2:=by kernel_rfl
theorem cellsI : Tryz.prog.cellsOf 3=1:=by kernel_rfl
theorem keyQ_inv {v : Value} {kl : Lit} (h : keyOf Tryz.prog 53 v=some kl) : ∃ p,v=encP p:=by
 unfold keyOf at h
 rw [fieldsP] at h
 simp only at h
 split at h
 ·rename_i hc
  rw [Bool.and_eq_true] at hc
  cases v with
  | agg cs =>
   have h2:=hc.2
   unfold Value.formed at h2
   rw [fieldsP] at h2
   simp only [cellsQ,beq_iff_eq] at h2
   obtain ⟨ls,hls,_⟩:=Option.map_eq_some_iff.1 h
   unfold Program.keyLits at hls
   rw [Tryz.underlying53] at hls
   simp only at hls
   split at hls
   ·obtain ⟨x,y,hxy⟩ : ∃ x y,cs=#[x,y]:=by
     obtain ⟨l⟩:=cs
     match l,h2 with
     | [x,y],_=>exact ⟨x,y,rfl⟩
    subst hxy
    obtain ⟨ls',hls',_⟩:=Option.map_eq_some_iff.1 hls
    simp [cellsI,Value.cells,Option.bind_eq_some_iff] at hls'
    obtain ⟨l1,k1,l2,⟨l3,k2,_⟩,_⟩:=hls'
    have isInt : ∀ {m : Nat} {z : Value} {l : List Lit},Program.keyLits Tryz.prog m 3 [z]=some l→∃ a,z=.int .i64 a:=fun {m z l} hk=>by
     cases m with
     | zero=>simp [Program.keyLits] at hk
     | succ m =>
      unfold Program.keyLits at hk
      rw [Tryz.underlying3] at hk
      cases z<;>simp at hk
      rename_i q a
      exact ⟨a,by rw [hk.1.1]⟩
    obtain ⟨a,rfl⟩:=isInt k1
    obtain ⟨b,rfl⟩:=isInt k2
    exact ⟨(a,b),rfl⟩
   ·cases hls
  | _=>
   have h2:=hc.2
   unfold Value.formed at h2
   rw [fieldsP] at h2
   simp at h2
 ·cases h
def fQ (g : Pu→Int) : Value→Int
 | .agg #[.int _ a,.int _ b]=>g (a,b)
 | _=>0
abbrev MQ (g : Pu→Int) (b n : Nat) (D : DataW Unit) (w : World) : Prop:=MK Tryz.prog 53 3 KQ (fQ g) b n D w
theorem MQ.made (w : World) : MQ (get []) w.heap.size 0 (.map []) (w.alloc (.map #[] 0)) :=
 MK.congr (MK.made w) fun v ⟨p,_,e⟩=>by subst e;rfl
theorem MQ.look {g : Pu→Int} {b n : Nat} {D : DataW Unit} {w : World} (h : MQ g b n D w) {p q : Int} (hp : pmay (p,q)=true) :
  (Instr.lookup 133 (.map (some b)) (.agg #[.int .i64 p,.int .i64 q]) false).run Tryz.prog w=.ok (.int .i64 (g (p,q))) w:=by
 obtain ⟨kl,hk⟩:=keyQ hp
 exact (Mf.MF.look h.mf keyedQ Tryz.underlying133 Tryz.underlying3 zeroQ ⟨(p,q),hp,rfl⟩ hk).1
theorem MQ.put {f g : Pu→Int} {b n : Nat} {D : DataW Unit} {w : World} (h : MQ f b n D w) (hn : n<maxLen) {p q : Int} (hp : pmay (p,q)=true) {c : Int} (hc : (Lit.int .i64 c).wf=true) (hg : g (p,q)=c) (ho : ∀ u : Pu,u≠(p,q)→g u=f u) :
  ∃ D' w',(Instr.mapUpdate 133 (.map (some b)) (.agg #[.int .i64 p,.int .i64 q]) (.int .i64 c)).run Tryz.prog w=.ok () w'∧MQ g b (n+1) D' w'∧w.grownBy w' (some b):=by
 obtain ⟨kl,hk⟩:=keyQ hp
 refine MK.put h keyedQ Tryz.underlying133 Tryz.underlying3 hn (key:=encP (p,q)) ⟨(p,q),hp,rfl⟩ hk hc hg fun u ⟨x,hx,e⟩ hne=>?_
 subst e
 exact ho x fun e=>hne (by rw [e])
end Go.Proofs.YthecinmekoaphaaGreat.Ac
namespace Go.Proofs.YthecinmekoaphaaGreat.Ac
open Go.RowKit Go.Maps Go.Sort Go.Shelf
open Rw
open Mg
theorem MQ.stays {g : Pu→Int} {b n : Nat} {D : DataW Unit} {w w' : World} (h : MQ g b n D w) (hb : Below w.heap.size w w') : MQ g b n D w':=MK.stays h hb
theorem keys1_in (F : Fence) (n : Nat) (h10 : F.fn 151) (hro : F.round=none) (hn : 1≤n) (l Bm b nn : Nat) (D0 : DataW Unit) {R : Value→Option (DataW Unit × List MemPlace)} (J Jx : List Pu→World→Prop)
  (hY : ∀ pre x W,J pre W→pre.length<Maps.size D0→YieldAt F (n - 1) Tryz.prog l #[encP x] W fun e W' =>
   (e=.returned (.bool true)∧J (pre++[x]) W'∧KeepsWalks W W')∨(e=.returned (.bool false)∧Jx (pre++[x]) W'))
  (W : World) (hJ : AbidesFrom W.heap.size J) (hm : W.cell? ⟨Bm,0,none⟩=some (.map (some b))) (hown : W.ownsMap Tryz.prog 53 R b nn D0) (h0 : J [] W) :
  CallsIn F n Tryz.prog 151 #[.func (.yield l) #[] #[],.pointer (some ⟨Bm,0,none⟩)] W fun e W'=>(∃ v,e=.returned v) ∧
   ((∃ ss : List Pu,Keys Tryz.prog 53 encP D0 ss∧J ss W')∨(∃ pre : List Pu,True∧Jx pre W')):=by
 refine callsIn_of_wp Tryz.func151 rfl h10 ?_ hro
 simp only [Tryz.ntmps151,List.size_toArray,List.length_cons,List.length_nil,Nat.reduceAdd,Nat.reduceSub,Array.replicate_succ,Array.replicate_zero,List.push_toArray,List.append_toArray,List.nil_append,List.cons_append]
 gi_wp2_with (first
  | (gi_at_range;refine wpListIn_range_own _ rfl _ 133 rfl 53 3 keyedQ Tryz.underlying133 _ b nn _ rfl hown ?_;intro w0 hrg0 hg0 hs0)
  | gi_in)
 go_frame
 gi_loopw [3] (fun _ wr=>∃ (left : Lit→Bool) (cnt : Nat) (ss : List Pu),wr.ranges Tryz.prog 53 R b W.heap.size nn D0 left cnt∧ss.length+cnt≤Maps.size D0∧Coll Tryz.prog 53 encP D0 left ss∧J ss wr)
  (fun _ wr=>wr.rangeLeft b W.heap.size)
 case atStart =>
  exact ⟨_,_,[],hrg0,by simp,Coll.start _ _ _ D0,hJ [] W w0 none h0 hg0 (fun r e=>by cases e)⟩
 case round =>
  obtain ⟨left,cnt,ss,hrg,hcs,hC,hJs⟩:=hrel
  gi_wp2_with (first
   | (gi_at_next;refine wpListIn_next_ranges _ rfl _ rfl 53 keyedQ R encP id (fun key kl hk=>keyQ_inv hk) (fun v _ _=>⟨v,rfl⟩) b W.heap.size nn _ _ _ rfl hrg ?_ ?_)
   | gi_in)
  ·intro hc0 hl0
   gi_wp2
   go_end0
   exact ⟨⟨_,rfl⟩,.inl ⟨ss,hC.all hl0,hJs⟩⟩
  ·intro x1 x2 c kl yd yp w2 cnt2 hkey hlk hv hat hrg2 hlt hg2 hs2 hen
   have hJ2 : J ss w2:=hJ ss wr w2 (some W.heap.size) hJs hg2 (fun r e=>by cases e;exact ⟨Nat.le_refl _,hrg.iter_walk⟩)
   have hJ3 : J ss (w2.alloc (.cells #[.int .i64 x1,.int .i64 x2] 53)):=hJ ss w2 _ none hJ2 (World.grownBy_alloc w2 _ none) (fun r e=>by cases e)
   obtain ⟨fn,tmps,assign,body,hy,hR⟩:=hY ss (x1,x2) _ hJ3 (by omega)
   clear hs2
   unfold encP at hen hy
   gi_wp2
   refine hR.mono ?_
   have hC2:=hC.step keyedQ hkey hlk hat
   rintro e W3 (⟨rfl,hJ3,hk3⟩ | ⟨rfl,hJx3⟩)
   ·gi_wp2
    have hrg3:=(hrg2.alloc (.cells #[.int .i64 x1,.int .i64 x2] 53)).of_walks hk3
    go_roundw
    case rel=>exact ⟨_,cnt2,ss++[(x1,x2)],hrg3,by simp;omega,hC2,hJ3⟩
    case measure=>rw [hrg3.left_eq,hrg.left_eq];exact hlt
   ·gi_wp2
    refine bodyPost_ret (results_none rfl _ _ _) rfl ?_
    exact ⟨⟨_,rfl⟩,.inr ⟨ss++[(x1,x2)],trivial,hJx3⟩⟩
theorem keys_stops (F : Fence) (n : Nat) (h10 : F.fn 151) (hro : F.round=none) (hn : 1≤n) (Bm b nn : Nat) (D0 : DataW Unit) {R : Value→Option (DataW Unit × List MemPlace)} (w : World) (hBm : Bm<w.heap.size)
  (hm : w.cell? ⟨Bm,0,none⟩=some (.map (some b))) (hown : w.ownsMap Tryz.prog 53 R b nn D0) :
  SeqStopsK F n Tryz.prog 151 #[.pointer (some ⟨Bm,0,none⟩)] (fun x : Pu=>#[encP x]) KeepsWalks (Keys Tryz.prog 53 encP D0) (fun _=>True) (Maps.size D0) w:=fun l J Jx W hW hJ _ hY h0=>by
 have hown' : W.ownsMap Tryz.prog 53 R b nn D0:=by
  have hbl:=hown.lt
  obtain ⟨es,clock,hb,Ft,hs,hD⟩:=hown
  exact ⟨es,clock,(hW.block b hbl).trans hb,Ft,hs,hD⟩
 exact keys1_in F n h10 hro hn l Bm b nn D0 J Jx hY W hJ ((hW.cell (p:=⟨Bm,0,none⟩) hBm).trans hm) hown' h0
theorem keys_in (F : Fence) (n : Nat) (h7 : F.fn 137) (hro : F.round=none) (mb : Option Nat) (w : World) :
  CallsIn F n Tryz.prog 137 #[.map mb] w fun e w'=>e=.returned (.func (.func 151) #[] #[.pointer (some ⟨w.heap.size,0,none⟩)])∧w'=w.alloc (.cells #[.map mb] 133):=by
 refine callsIn_of_wp Tryz.func137 rfl h7 ?_ hro
 simp only [Tryz.ntmps137,List.size_toArray,List.length_cons,List.length_nil,Nat.reduceAdd,Nat.reduceSub,Array.replicate_succ,Array.replicate_zero,List.push_toArray,List.append_toArray,List.nil_append,List.cons_append]
 gi_wp2
 go_ret
 exact ⟨rfl,rfl⟩
end Go.Proofs.YthecinmekoaphaaGreat.Ac
namespace Go.Proofs.YthecinmekoaphaaGreat.Ac
open Go.RowKit Go.Maps Go.Sort Go.Shelf
open Rw
open Sl
attribute [local go_sem] Oper.semAt_some
theorem infoP : (Tryz.prog.info? 53).map (fun i=>(i.zero,i.size,i.bytes))=some (some (.agg #[.int .i64 0,.int .i64 0]),2,16):=by kernel_rfl
def encL (p : Pu) : List Value:=[.int .i64 p.1,.int .i64 p.2]
theorem encL_len (p : Pu) : (encL p).length=2:=rfl
abbrev OwnP (B : Nat) (l : List Pu) (v : Value) (w : World) : Prop:=w.ownsRow B 53 2 v l.length (l.flatMap encL)
theorem OwnP.snoc {B : Nat} {l : List Pu} {p : Pu} {v : Value} {w : World} (k : w.ownsRow B 53 2 v (l.length+1) (l.flatMap encL++encL p)) : OwnP B (l++[p]) v w:=by
 unfold OwnP;rw [flat_snoc,List.length_append];exact k
def Box2 (W : World) (B : Nat) (x : Pu) : Prop:=W.heap[B]?=some (.cells #[.int .i64 x.1,.int .i64 x.2] 53 (0,0))
theorem Box2.cells {W : World} {B : Nat} {x : Pu} (h : Box2 W B x) : W.cell? ⟨B,0,none⟩=some (.int .i64 x.1)∧W.cell? ⟨B,1,none⟩=some (.int .i64 x.2)∧B<W.heap.size:=by
 unfold Box2 at h
 exact ⟨by simp [World.cell?,h],by simp [World.cell?,h],(Array.getElem?_eq_some_iff.1 h).1⟩
theorem Box2.own (B n : Nat) (x : Pu) : OwnFrom n (fun (_ : Unit) W=>Box2 W B x):=fun s X Y row hs hg hr=>by
 refine (hg.block B (Array.getElem?_eq_some_iff.1 hs).1 fun e=>?_).trans hs
 obtain ⟨_,o,ho,hc⟩:=hr B e.symm
 rw [show X.heap[B]?=_ from hs] at ho;cases ho;cases hc
theorem appendSeq_in (F : Fence) (n : Nat) (h11 : F.fn 164) (hro : F.round=none) (hn : 2≤n) (g : Nat) (lb : Array Value) (hFg : F.fn g) (eg : ∀ args w,(callFunc g args).run Tryz.prog w=.ok (.enter g args) w)
  (S : List Pu→Prop) (N : Nat) (hN : N≤1000000) (w : World) (hseq : SeqStopsK F (n - 1) Tryz.prog g lb (fun x : Pu=>#[.agg #[.int .i64 x.1,.int .i64 x.2]]) KeepsWalks S (fun _=>True) N w) :
  CallsIn F n Tryz.prog 164 #[.slice none 0 0,.func (.func g) #[] lb] w fun e w'=>∃ (v : Value) (ss : List Pu),e=.returned v∧S ss∧OwnP w.heap.size ss v w'∧Below w.heap.size w w'∧ss.length≤N:=by
 have h1 : 1≤n:=by omega
 obtain ⟨i0,hi,hz0,hz1,hz2⟩:=info_parts infoP
 refine callsIn_of_wp_marks Tryz.func164 rfl h11 ?_ hro
 simp only [Tryz.ntmps164,List.size_toArray,List.length_cons,List.length_nil,Nat.reduceAdd,Nat.reduceSub,Array.replicate_succ,Array.replicate_zero,List.push_toArray,List.append_toArray,List.nil_append,List.cons_append]
 gi_wp2
 have bO:=Boxed.new w 156 (.slice none 0 0)
 have hB0 : Below w.heap.size w (w.alloc (.cells #[.slice none 0 0] 156)):=(Below.refl _ w).alloc (Nat.le_refl _) _
 refine wpIn_rangeFunc_ownH hro h1 (gf:=g) (lb:=lb) rfl hFg eg hseq walksK_t walksK_b hB0 (fun _=>rfl)
  (fun pre W=>(∃ v,Boxed W w.heap.size 156 v∧W.ownsRow w.heap.size 53 2 v pre.length (pre.flatMap encL)∧True)∧Below w.heap.size w W∧pre.length≤N)
  (fun _ _ _=>False)
  (OwnFrom.and (Own.from (holdsRow_own w.heap.size w.heap.size 156 53 2 (fun pre : List Pu=>pre.length) (fun pre=>pre.flatMap encL) (fun _ _=>True)) _) (OwnFrom.and (ownFrom_below (Nat.le_refl _) (by simp)) (ownFrom_pure _ (fun pre : List Pu=>pre.length≤N))))
  (fun _ _ _ _ _ hs _ _=>hs)
  ⟨⟨_,bO,World.ownsRow_nil _ _ _ _,trivial⟩,hB0,Nat.zero_le _⟩
  (fun x a' W=>∃ Bx,w.heap.size<Bx∧Box2 W Bx x∧a'={ tmps:=#[.slice none 0 0,.func (.func g) #[] lb,.pointer (some ⟨w.heap.size,0,none⟩),undef,.slice none 0 0,.pointer (some ⟨Bx,0,none⟩),.func (.func g) #[] lb,.agg #[.int .i64 x.1,.int .i64 x.2],undef,undef,undef,undef,undef],defers:=[] })
  (fun x a' _ X Y row hs hg hr=>by obtain ⟨Bx,h1,h2,h3⟩:=hs;exact ⟨Bx,h1,Box2.own Bx _ x () X Y row h2 hg hr,h3⟩)
  ?assign ?body ?done ?stop
 case assign =>
  rintro l pre x W K ⟨⟨v,hv,hrow,_⟩,hB,hpl⟩ hK
  gi_wp2
  exact hK _ _ ((KeepsOthers.alloc _ _).from _) (KeepsWalks.alloc _ _) ⟨⟨v,hv.alloc _,hrow.alloc _,trivial⟩,hB.alloc hB.size _,hpl⟩ ⟨W.heap.size,hv.lt,World.alloc_heap_new W _,rfl⟩
 case body =>
  rintro l pre x a' W hl ⟨r,hr⟩ ⟨⟨v,hv,hrow,_⟩,hB,_⟩ ⟨Bx,hBx,bX,rfl⟩ hlt
  have hc:=hv.cell
  obtain ⟨k0,k1,kz⟩:=bX.cells
  gi_wp2_with (gi_at_builtin;refine wpListIn_append_own _ rfl _ _ 156 rfl w.heap.size 53 i0 (.agg #[.int .i64 0,.int .i64 0]) 2 16 Tryz.underlying156 hi hz0 hz1 hz2 rfl (by decide) _ _ _ rfl (hrow.alloc _) ⟨W.heap.size,0,none⟩ 1 1 [.int .i64 x.1,.int .i64 x.2] rfl rfl ?c1 ?c2 ?c3 ?c4 ?c5 ?_)
  case c1=>intro j u hj;rcases j with _ | _ | _<;>simp at hj<;>subst hj<;>simp [Addr.add,go_sem]
  case c2=>intro u hu;simp at hu;rcases hu with rfl | rfl<;>rfl
  case c3=>unfold maxLen;omega
  case c4=>omega
  case c5=>have:=hB.size;simp;omega
  intro v' w1 hown' hgrow _
  obtain ⟨g',cap',rfl⟩:=ownsRow_succ hown'
  obtain ⟨hv1,hv2,hr2,hk2,hb2⟩:=hv.appended (by decide) hrow hB.size (Nat.le_refl _) hown' hgrow
  have hc1:=hv1.cell
  have hf1:=hv1.frozen
  gi_wp2
  exact ⟨hk2.from _,hk2.walks,⟨_,hv2,OwnP.snoc hr2,trivial⟩,hB.trans hb2,by simp;omega⟩
 case done =>
  rintro D ys W hD hS ⟨⟨v,hv,hrow,_⟩,hB,hpl⟩ hK
  have hc:=hv.cell
  gi_wp2
  refine ⟨by simp,.inl ⟨_,_,rfl,run_takeDeferred hK,?_⟩⟩
  exact ⟨_,results_tmp rfl _ _ _,v,ys,rfl,hS,ownsRow_putObj hrow _ hK rfl,hB.trans (belowK_b (w:=w) (Nat.le_refl _) W D _ _ (by simp at hD;omega) hK rfl rfl),hpl⟩
 case stop =>
  rintro D c pre W _ _ h _
  exact h.elim
theorem collect_in (F : Fence) (n : Nat) (h8 : F.fn 149) (h11 : F.fn 164) (hro : F.round=none) (hn : 3≤n) (g : Nat) (lb : Array Value) (hFg : F.fn g) (eg : ∀ args w,(callFunc g args).run Tryz.prog w=.ok (.enter g args) w)
  (S : List Pu→Prop) (N : Nat) (hN : N≤1000000) (w : World) (hseq : SeqStopsK F (n - 1 - 1) Tryz.prog g lb (fun x : Pu=>#[.agg #[.int .i64 x.1,.int .i64 x.2]]) KeepsWalks S (fun _=>True) N w) :
  CallsIn F n Tryz.prog 149 #[.func (.func g) #[] lb] w fun e w'=>∃ (v : Value) (ss : List Pu),e=.returned v∧S ss∧OwnP w.heap.size ss v w'∧Below w.heap.size w w'∧ss.length≤N:=by
 have h1 : 1≤n:=by omega
 refine callsIn_of_wp Tryz.func149 rfl h8 ?_ hro
 simp only [Tryz.ntmps149,List.size_toArray,List.length_cons,List.length_nil,Nat.reduceAdd,Nat.reduceSub,Array.replicate_succ,Array.replicate_zero,List.push_toArray,List.append_toArray,List.nil_append,List.cons_append]
 gi_wp2_with (gi_at_call 164;refine (appendSeq_in F (n - 1) h11 hro (by omega) g lb hFg eg S N hN _ hseq).mono ?_;rintro e w' ⟨v,ss,rfl,hS,hrow,hb,hl⟩)
 go_ret
 exact ⟨v,ss,rfl,hS,hrow,hb,hl⟩
end Go.Proofs.YthecinmekoaphaaGreat.Ac
namespace Go.Proofs.YthecinmekoaphaaGreat.Ac
open Go.RowKit Go.Maps
open Rw
open Sl
variable {lo : Nat}
theorem get_snoc {a : List Hd} {h : Hd} (hn : ∀ k∈a,key k≠key h) (p : Pu) : get (a++[h]) p=if key h=p then amt h else get a p:=by
 induction a with
 | nil=>rfl
 | cons x a ih =>
  rw [List.cons_append,get,ih (fun k hk=>hn k (List.mem_cons_of_mem _ hk)),get]
  by_cases e : key x=p
  ·rw [if_pos e,if_pos e,if_neg (fun e2=>hn x List.mem_cons_self (e.trans e2.symm))]
  ·rw [if_neg e,if_neg e]
theorem get_take {l : List Hd} (hr : Right l) {k : Nat} (h : k<l.length) (p : Pu) : get (l.take (k+1)) p=if key l[k]=p then amt l[k] else get (l.take k) p:=by
 rw [take_snoc h]
 refine get_snoc (fun x hx e=>?_) p
 obtain ⟨i,hi,rfl⟩:=List.getElem_of_mem hx
 rw [List.length_take] at hi
 have:=List.pairwise_iff_getElem.1 hr.2 i k (by omega) h (by omega)
 rw [List.getElem_take] at e
 rw [e,pless_irrefl] at this;cases this
def MapPost (g : Pu→Int) (m : Nat) (w : World) (e : Ending) (w' : World) : Prop:=∃ (b n : Nat) (D : DataW Unit),e=.returned (.map (some b))∧n≤m∧MQ g b n D w'∧w.heap.size≤b∧Below w.heap.size w w'
theorem byPurse_any (l : List Hd) (v : Value) (w : World) (h : HL lo l v w) (hr : Right l) (hm : l.length≤1000000) :
  Calls Tryz.prog 106 #[v] w (MapPost (get l) l.length w):=by
 have hmm:=@run_makeMap Tryz.prog
 have HRt:=lH hr
 have HMd:=lH (MQ.made w)
 clear hr
 rcases h.cases with ⟨rfl,a,c,rfl⟩ | ⟨hne,b,off,c,rfl,hat⟩
 ·clear h
  go_enter Tryz.func106,Tryz.ntmps106
  go_wp2
  go_loopw [9] (fun i wr=>i=.int .i64 0∧wr=w.alloc (.map #[] 0)) (fun i _=>0)
  case atStart=>exact ⟨rfl,rfl⟩
  case round =>
   obtain ⟨rfl,rfl⟩:=hrel
   go_wp2
   go_ret
   exact ⟨_,_,_,rfl,Nat.le_refl _,HMd.out,Nat.le_refl _,below1 _ _⟩
 ·have HA:=lH hat
  have hbb : b<w.heap.size:=hat.1
  obtain ⟨n,hn⟩ : ∃ n,n=l.length:=⟨_,rfl⟩
  rw [← hn] at hm ⊢
  have HN:=lH hn
  clear h hat hn hne
  go_enter Tryz.func106,Tryz.ntmps106
  go_wp2
  go_loopw [9] (fun i wr=>∃ (k : Nat) (D : DataW Unit),k≤n∧i=.int .i64 k∧Below w.heap.size w wr∧MQ (get (l.take k)) w.heap.size k D wr) (fun i _=>n - (intOf i).toNat)
  case atStart=>exact ⟨0,_,Nat.zero_le _,rfl,below1 _ _,HMd.out⟩
  case round =>
   obtain ⟨k,D,hk,rfl,hb,hM⟩:=hrel
   have HM:=lH hM
   clear hM
   by_cases hlt : k<n
   ·have hlt2 : (k : Int)<n:=by omega
    have hkl : k<l.length:=by rw [← HN.out];exact hlt
    obtain ⟨⟨x,y,z⟩,hx⟩ : ∃ x,l[k]=x:=⟨_,rfl⟩
    have hc:=at3 HA.out k hkl
    have ht:=get_take HRt.out hkl
    have hg:=HRt.out.1 l[k] (List.getElem_mem hkl)
    rw [hx] at hc ht hg
    simp only at hc
    obtain ⟨q0,q1,q2⟩:=hc
    obtain ⟨c1,f1,r1,p1⟩:=bcell hb
    have hg2:=good_iff.1 hg
    obtain ⟨D2,w2,hput,hM2,hgr⟩:=MQ.put (HM.out.stays (below1 wr (.cells #[.int .i64 x,.int .i64 y,.int .i64 z] 55))) (g:=get (l.take (k+1))) (by unfold maxLen;omega) (p:=x) (q:=y) hg2.1 (c:=z) (Go.WalkArith.wf_i64 (by have:=hg2.2;simp only [amt] at this;omega)) (by rw [ht];exact if_pos rfl) (fun u hu=>by rw [ht];exact if_neg (fun e=>hu e.symm))
    have HM2:=lH hM2
    have hsz:=hb.size
    have HB2 : Hid (Below w.heap.size w w2):=lH ((hb.alloc hsz _).grown hgr (by simp;omega) (fun k e=>by cases e;exact Nat.le_refl _))
    clear hM2 hgr ht hg hg2 hx
    go_wp2
    go_roundw
    case rel=>exact ⟨k+1,_,by omega,by go_num,HB2.out,HM2.out⟩
    case measure=>simp [intOf];omega
   ·obtain rfl : k=n:=by omega
    have e1 : l.take k=l:=by rw [HN.out,List.take_length]
    have hz:=HM.out
    rw [e1] at hz
    have HZ:=lH hz
    clear hz e1
    go_wp2
    go_ret
    exact ⟨_,_,_,rfl,Nat.le_refl _,HZ.out,Nat.le_refl _,hb⟩
end Go.Proofs.YthecinmekoaphaaGreat.Ac
namespace Go.Proofs
open Go.Shelf
def Tryz.sortP_ren : Go.Shelf.Ren:=⟨fun | 6=>150 | 15=>147 | 14=>165 | 28=>162 | 29=>163 | 20=>172 | 21=>173 | 22=>174 | 23=>175 | 24=>176 | 25=>177 | 26=>178 | 27=>179 | 46=>181 | 47=>168 | 48=>169 | 49=>182 | 50=>183 | 57=>184 | n=>n,fun | 22=>156 | 24=>53 | 25=>96 | 3=>3 | 39=>163 | 0=>0 | 53=>180 | 55=>51 | 4=>4 | 46=>173 | 45=>172 | 50=>177 | 5=>5 | 9=>9 | 66=>185 | 70=>189 | 76=>196 | 77=>79 | n=>n,fun | n=>n⟩
theorem Tryz.sortP : Go.Proofs.SlLaysF0.n6 Tryz.prog Tryz.sortP_ren:={
 mixed:=by kernel_rfl
 f6:=⟨Tryz.f150.name,by decide,Tryz.func150.trans (congrArg some (by kernel_rfl))⟩
 f14:=⟨Tryz.f165.name,by decide,Tryz.func165.trans (congrArg some (by kernel_rfl))⟩
 f15:=Tryz.func147.trans (congrArg some (by kernel_rfl))
 f20:=⟨Tryz.f172.name,by decide,Tryz.func172.trans (congrArg some (by kernel_rfl))⟩
 f21:=⟨Tryz.f173.name,by decide,Tryz.func173.trans (congrArg some (by kernel_rfl))⟩
 f22:=⟨Tryz.f174.name,by decide,Tryz.func174.trans (congrArg some (by kernel_rfl))⟩
 f23:=⟨Tryz.f175.name,by decide,Tryz.func175.trans (congrArg some (by kernel_rfl))⟩
 f24:=⟨Tryz.f176.name,by decide,Tryz.func176.trans (congrArg some (by kernel_rfl))⟩
 f25:=⟨Tryz.f177.name,by decide,Tryz.func177.trans (congrArg some (by kernel_rfl))⟩
 f26:=⟨Tryz.f178.name,by decide,Tryz.func178.trans (congrArg some (by kernel_rfl))⟩
 f27:=⟨Tryz.f179.name,by decide,Tryz.func179.trans (congrArg some (by kernel_rfl))⟩
 f28:=Tryz.func162.trans (congrArg some (by kernel_rfl))
 f29:=Tryz.func163.trans (congrArg some (by kernel_rfl))
 f46:=⟨Tryz.f181.name,by decide,Tryz.func181.trans (congrArg some (by kernel_rfl))⟩
 f47:=Tryz.func168.trans (congrArg some (by kernel_rfl))
 f48:=Tryz.func169.trans (congrArg some (by kernel_rfl))
 f49:=⟨Tryz.f182.name,by decide,Tryz.func182.trans (congrArg some (by kernel_rfl))⟩
 f50:=⟨Tryz.f183.name,by decide,Tryz.func183.trans (congrArg some (by kernel_rfl))⟩
 f57:=⟨Tryz.f184.name,by decide,Tryz.func184.trans (congrArg some (by kernel_rfl))⟩
 t0:=Tryz.underlying0
 a0:=Tryz.isAgg0
 z0:=Tryz.sizeOf0
 v0:=Tryz.zeroValue0
 t3:=Tryz.underlying3
 a3:=Tryz.isAgg3
 z3:=Tryz.sizeOf3
 v3:=Tryz.zeroValue3
 t4:=Tryz.underlying4
 a4:=Tryz.isAgg4
 z4:=Tryz.sizeOf4
 v4:=Tryz.zeroValue4
 t5:=Tryz.underlying5
 a5:=Tryz.isAgg5
 z5:=Tryz.sizeOf5
 v5:=Tryz.zeroValue5
 t9:=Tryz.underlying9
 a9:=Tryz.isAgg9
 z9:=Tryz.sizeOf9
 v9:=Tryz.zeroValue9
 t22:=Tryz.underlying156
 a22:=Tryz.isAgg156
 z22:=Tryz.sizeOf156
 v22:=Tryz.zeroValue156
 t25:=Tryz.underlying96
 a25:=Tryz.isAgg96
 z25:=Tryz.sizeOf96
 v25:=Tryz.zeroValue96
 t39:=Tryz.underlying163
 a39:=Tryz.isAgg163
 z39:=Tryz.sizeOf163
 v39:=Tryz.zeroValue163
 t45:=Tryz.underlying172
 a45:=Tryz.isAgg172
 z45:=Tryz.sizeOf172
 v45:=Tryz.zeroValue172
 t46:=Tryz.underlying173
 a46:=Tryz.isAgg173
 z46:=Tryz.sizeOf173
 v46:=Tryz.zeroValue173
 t50:=Tryz.underlying177
 a50:=Tryz.isAgg177
 z50:=Tryz.sizeOf177
 v50:=Tryz.zeroValue177
 t53:=Tryz.underlying180
 a53:=Tryz.isAgg180
 z53:=Tryz.sizeOf180
 v53:=Tryz.zeroValue180
 t55:=Tryz.underlying51
 a55:=Tryz.isAgg51
 z55:=Tryz.sizeOf51
 v55:=Tryz.zeroValue51
 t66:=Tryz.underlying185
 a66:=Tryz.isAgg185
 z66:=Tryz.sizeOf185
 v66:=Tryz.zeroValue185
 t70:=Tryz.underlying189
 a70:=Tryz.isAgg189
 z70:=Tryz.sizeOf189
 v70:=Tryz.zeroValue189
 t76:=Tryz.underlying196
 a76:=Tryz.isAgg196
 z76:=Tryz.sizeOf196
 v76:=Tryz.zeroValue196
 t77:=Tryz.underlying79
 a77:=Tryz.isAgg79
 z77:=Tryz.sizeOf79
 v77:=Tryz.zeroValue79 }
end Go.Proofs
namespace Go.Proofs.YthecinmekoaphaaGreat.Ac
open Go.RowKit Go.Maps Go.Sort Go.Shelf
open Rw
open Sl
open Mg
theorem encL_one (x : Pu) : ∀ v∈encL x,v.oneCell'=true:=by
 intro v hv;simp [encL] at hv;rcases hv with rfl | rfl<;>rfl
theorem swoP : SWO (ltOf cmpP) where
 irrefl x:=by unfold ltOf;rw [cmpP_lt];exact pless_irrefl x
 trans x y z h1 h2:=by unfold ltOf at *;rw [cmpP_lt] at *;exact pless_trans h1 h2
 ntrans x y z h1 h2:=by
  unfold ltOf at *
  rw [cmpP_lt] at *
  cases h : pless x z
  ·rfl
  ·cases k : pless y x
   ·have e:=pless_tri h1 k
    rw [e,h2] at h;cases h
   ·rw [pless_trans k h] at h2;cases h2
theorem cmpLays (blk off size : Nat) (w : World) : Go.Proofs.CmpLays Tryz.prog 64 #[] encL 2 cmpP blk off size w :=
 fun _ _ _ _ x y=>purses_ext x.1 x.2 y.1 y.2 _
theorem hold2 {w : World} {base : Nat} {g cap : Nat} {n : Nat} {l : List Pu} (h : OwnP base l (.slice (some ⟨g,0,none⟩) n cap) w) (hn : l≠[]) : HoldsK encL 2 w g 0 l.toArray∧g<w.heap.size∧base≤g:=by
 have h1:=SL.own (lo:=0) encL 2 encL_len (by decide) h
 rcases h.2 with ⟨e,_⟩ | ⟨g',cap',cur,e,hbase,hg,hnc,_,hcs,ht⟩
 ·cases e
 ·have eg : g=g':=by simp at e;exact e.1
  subst eg
  have hfz : ∀ o,w.frozen? ⟨g,o,none⟩=false:=fun o=>by simp [World.frozen?,hg]
  have hat : At encL 2 l g 0 w:=by
   rcases h1.2.cases with ⟨e2,_⟩ | ⟨_,b,off,c,e2,hat⟩
   ·exact absurd e2 hn
   ·simp at e2
    obtain ⟨⟨rfl,rfl⟩,_⟩:=e2
    exact hat
  refine ⟨fun t ht2=>⟨?_,hfz _⟩,hat.1,hbase⟩
  rw [size_flatK] at ht2
  rw [get_flatK _ _ _ _ ht2]
  have hlt : t / 2<l.length:=by simp at ht2;omega
  have:=hat.2 (t / 2) l[t / 2] (List.getElem?_eq_getElem hlt) (t % 2) (encL l[t / 2])[t % 2]! (by
   have h2 : t % 2<2:=Nat.mod_lt _ (by decide)
   have : t % 2=0∨t % 2=1:=by omega
   rcases this with e | e<;>rw [e]<;>rfl)
  rw [show 0+t / 2*2+t % 2=0+t by omega] at this
  rw [this]
  simp [hlt]
theorem at_holdsK {w : World} {g : Nat} {d : Array Pu} (h : HoldsK encL 2 w g 0 d) (hg : g<w.heap.size) : At encL 2 d.toList g 0 w:=by
 refine ⟨hg,fun i x hx j u hu=>?_⟩
 obtain ⟨hi,rfl⟩:=List.getElem?_eq_some_iff.1 hx
 have hi2 : i<d.size:=by simpa using hi
 have hj : j<2:=by
  rcases Nat.lt_or_ge j 2 with h | h
  ·exact h
  ·rw [List.getElem?_eq_none (by rw [encL_len];exact h)] at hu;cases hu
 have:=(h.cell (i:=i) (c:=j) hi2 hj).1
 rw [this]
 have e : d[i]! = d[i]:=getElem!_pos d i hi2
 rw [e]
 have : j=0∨j=1:=by omega
 rcases this with rfl | rfl<;>simpa [encL] using hu
theorem grown_sorted {w : World} {g n : Nat} {os : Array Obj} (d : Array Pu) : w.grownBy (sortWorldK encL 2 w g 0 n d os) (some g):=by
 unfold sortWorldK putRowK
 refine ⟨rfl,rfl,rfl,by simp,fun k hk hne=>?_⟩
 rw [heap_grow_old _ _ (by simpa using hk)]
 have : g≠k:=fun e=>hne (by rw [e])
 simp [Go.Sort.putRow,mapBlock,Sort.ahead,Array.getElem?_modify,this]
def PL (ss : List Pu) (v : Value) (w : World) : Prop:=∃ a c,v=.slice a ss.length c∧(ss=[]∨∃ g cur,a=some ⟨g,0,none⟩∧w.heap[g]?=some (.cells cur 53 (0,0))∧At encL 2 ss g 0 w)
theorem sorted_block {w : World} {g n : Nat} {os : Array Obj} {cur : Array Value} {d : Array Pu} (hb : w.heap[g]?=some (.cells cur 53 (0,0))) :
  ∃ cur',(sortWorldK encL 2 w g 0 n d os).heap[g]?=some (.cells cur' 53 (0,0)):=by
 unfold sortWorldK putRowK
 have hg : g<w.heap.size:=(Array.getElem?_eq_some_iff.1 hb).1
 rw [heap_grow_old _ _ (by simpa using hg)]
 simp [Go.Sort.putRow,mapBlock,Sort.ahead,Array.getElem?_modify,hb,onCells]
def SortedPost (D : DataW Unit) (w : World) (e : Ending) (w' : World) : Prop:=∃ (v : Value) (ss : List Pu),e=.returned v∧Keys Tryz.prog 53 encP D ss∧ss.Pairwise (fun a b=>pless a b=true)∧PL ss v w'∧ss.length≤1000000∧Below w.heap.size w w'
theorem sorted_pairwise {ss : List Pu} {d : Array Pu} (hp : PermIn 0 ss.toArray.size ss.toArray d) (hs : SortedIn (ltOf cmpP) 0 ss.toArray.size d) (hn : ss.Nodup) : d.toList.Perm ss∧d.toList.Pairwise (fun a b=>pless a b=true):=by
 have hsz : d.size=ss.length:=by simpa using hp.1
 have hpm : d.toList.Perm ss:=by
  have:=hp.2.2
  have e1 : d.extract 0 ss.toArray.size=d:=by rw [show ss.toArray.size=d.size by simp [hsz]];simp
  have e2 : ss.toArray.extract 0 ss.toArray.size=ss.toArray:=by simp
  rw [e1,e2] at this
  simpa using this
 refine ⟨hpm,List.pairwise_iff_getElem.2 fun i j hi hj hij=>?_⟩
 have hi2 : i<d.size:=by simpa using hi
 have hj2 : j<d.size:=by simpa using hj
 have h1:=hs i j (Nat.zero_le _) hij (by simp;omega)
 rw [getElem!_pos d i hi2,getElem!_pos d j hj2] at h1
 unfold ltOf at h1
 rw [cmpP_lt] at h1
 simp only [Array.getElem_toList]
 cases h2 : pless d[i] d[j]
 ·have e:=pless_tri h1 h2
  have hnd:=hpm.nodup_iff.2 hn
  have:=List.pairwise_iff_getElem.1 hnd i j hi hj hij
  simp only [Array.getElem_toList] at this
  exact absurd e.symm this
 ·rfl
theorem sorted_any (Bm b nn : Nat) (D : DataW Unit) (g : Pu→Int) (w : World) (h : MQ g b nn D w) (hBm : Bm<w.heap.size) (hm : w.cell? ⟨Bm,0,none⟩=some (.map (some b))) (hN : Maps.size D≤1000000) :
  Calls Tryz.prog 136 #[.func (.func 151) #[] #[.pointer (some ⟨Bm,0,none⟩)],.func (.func 64) #[] #[]] w (SortedPost D w):=by
 have hseq : SeqStopsK Fence.wide (5 - 1 - 1) Tryz.prog 151 #[.pointer (some ⟨Bm,0,none⟩)] (fun x : Pu=>#[.agg #[.int .i64 x.1,.int .i64 x.2]]) KeepsWalks (Keys Tryz.prog 53 encP D) (fun _=>True) (Maps.size D) w:=keys_stops Fence.wide 3 trivial rfl (by decide) Bm b nn D w hBm hm h.2.1
 have hC:=(callsIn_wide (n:=5)).1 (collect_in Fence.wide 5 trivial trivial rfl (by decide) _ _ trivial (enters_of Tryz.func151 (by kernel_rfl) rfl) _ _ hN w hseq)
 have HC:=lH hC
 have HN:=lH hN
 clear hseq hC h hm hN
 go_enter Tryz.func136,Tryz.ntmps136
 go_wp2_with fail
 refine HC.out.mono ?_
 rintro e w1 ⟨v,ss,rfl,hK,hown,hb1,hln⟩
 have eg : ∀ args w,(callFunc 64 args).run Tryz.prog w=.ok (.enter 64 args) w:=enters_of Tryz.func64 (by kernel_rfl) rfl
 have HK:=lH hK
 clear hK
 by_cases hss : ss=[]
 ·subst hss
  obtain ⟨p,cap,rfl⟩ : ∃ p cap,v=.slice p 0 cap:=by
   obtain ⟨a,c,hv,_⟩:=(SL.own (lo:=0) encL 2 encL_len (by decide) hown).2
   exact ⟨a,c,hv⟩
  have hS:=AnyF.slices_SortFunc_none Tryz.sortP p cap (.func (.func 64) #[] #[]) w1
  change Calls Tryz.prog 150 _ _ _ at hS
  have HS:=lH hS
  clear hS hown eg
  go_wp2_with fail
  refine HS.out.mono ?_
  rintro e w2 ⟨rfl,rfl⟩
  go_wp2
  go_ret
  exact ⟨_,[],rfl,HK.out,List.Pairwise.nil,⟨_,_,rfl,.inl rfl⟩,by simp,hb1⟩
 ·obtain ⟨g,cap,rfl⟩ : ∃ g cap,v=.slice (some ⟨g,0,none⟩) ss.length cap:=by
   rcases hown.2 with ⟨_,h0⟩ | ⟨g,cap,_,rfl,_⟩
   ·exact absurd (List.eq_nil_of_length_eq_zero h0) hss
   ·exact ⟨g,cap,rfl⟩
  obtain ⟨hH,hgl,hbase⟩:=hold2 hown hss
  obtain ⟨cur,hcur⟩ : ∃ cur,w1.heap[g]?=some (.cells cur 53 (0,0)):=by
   rcases hown.2 with ⟨e,_⟩ | ⟨g',cap',cur,e,_,hg,_⟩
   ·cases e
   ·simp at e;rw [e.1];exact ⟨cur,hg⟩
  have HCu:=lH hcur
  clear hcur
  have hN1:=HN.out
  have hlen : ss.length<4611686018427387904:=by omega
  clear hN1
  have hS:=AnyQ.slices_SortFunc Tryz.sortP 2 Tryz.isAgg53 Tryz.sizeOf53 encL encL_len encL_one cmpP swoP 64 #[] g 0 cap ss.toArray w1 eg (cmpLays g 0 _ w1) hH hgl (by simpa using hlen)
  change Calls Tryz.prog 150 _ _ _ at hS
  rw [show ss.toArray.size=ss.length by simp] at hS
  have HH:=lH hH
  have HS:=lH hS
  clear hS hown eg hH hlen hss
  go_wp2_with fail
  refine HS.out.mono ?_
  rintro e w2 ⟨rfl,d,n,os,hp,hs,rfl⟩
  have hq:=sorted_pairwise (by simpa using hp) (by simpa using hs) HK.out.1
  have hH2:=holdsK_sortWorldK_c encL 2 w1 g 0 ss.toArray d n os HH.out hgl (by simpa using hp.1)
  have hsz:=size_sortWorldK_c encL 2 w1 g 0 n d os
  have hat:=at_holdsK hH2 (by omega)
  have el : d.toList.length=ss.length:=hq.1.length_eq
  obtain ⟨cur',hcur'⟩:=sorted_block (n:=n) (os:=os) (d:=d) HCu.out
  have hsl : PL d.toList (.slice (some ⟨g,0,none⟩) ss.length cap) (sortWorldK encL 2 w1 g 0 n d os):=⟨_,cap,by rw [el],.inr ⟨g,cur',rfl,hcur',hat⟩⟩
  have hbw : Below w.heap.size w (sortWorldK encL 2 w1 g 0 n d os):=hb1.grown (grown_sorted d) hb1.size (fun j hj=>by cases hj;exact hbase)
  have HSL:=lH hsl
  have HQ:=lH hq
  have HL : Hid (d.toList.length≤1000000):=lH (by rw [el];exact Nat.le_trans hln HN.out)
  clear hsl hq hH2 hat hp hs el hln hcur'
  go_wp2
  go_ret
  exact ⟨_,d.toList,rfl,HK.out.perm HQ.out.1,HQ.out.2,HSL.out,HL.out,hbw⟩
end Go.Proofs.YthecinmekoaphaaGreat.Ac
