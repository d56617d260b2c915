/- Package exchange as it landed: a cell of a row of structs is written; copies of lists. -/
import Derived.Test.YtjhocpcpkemcaaaGreatQeZZ
import Derived.Test.YtjhocpcpkemcaaaGreatQeAY
import Derived.Test.YtjhocpcpkemcaaaGreatQeBD
import Derived.Deep.MidRow
import Derived.Test.YtjhocpcpkemcaaaGreatQeBI
import Derived.Test.YtjhocpcpkemcaaaGreatQeBL
import Derived.Test.YtjhocpcpkemcaaaGreatQeBM
set_option linter.unusedVariables false
set_option maxRecDepth 16000
set_option maxHeartbeats 32000000
namespace Go.Proofs.YtjhocpcpkemcaaaGreat.Ex
open Go.RowKit
open Rw
open Da
open Le (LL eL Lv OL Od eO elemL typesL cloneO_any flat low_setCell keeps_setCell Own.lower)
open La (Ln)
open Se (NL eS Sn elemS typesS)
structure Lot {α:Type} (e:Enc α) (T:TypeId) (n Bo g:Nat) (l:List α) (w:World):Prop where
 ls:Lies e T (Bs.of n) l g 0 w
 ty:∃ cur,w.heap[g]?=some (.cells cur T (0,0))
 bo:Bo≤g
 lo:n≤g
section
variable {α:Type} {e:Enc α} {T:TypeId}
theorem Lot.stays {n Bo g:Nat} {l:List α} {w w':World} (h:Lot e T n Bo g l w) (k:Below w.heap.size w w'):Lot e T n Bo g l w' :=
 ⟨Lies.keep e T h.ls (Keeps.of_below k),⟨h.ty.choose,(k.block _ h.ls.1).trans h.ty.choose_spec⟩,h.bo,h.lo⟩
theorem Lot.is {n Bo g c:Nat} {l:List α} {w:World} (h:Lot e T n Bo g l w):Is e T (Bs.of n) l (.slice (some ⟨g,0,none⟩) l.length c) w:=⟨_,c,rfl,.inr ⟨g,0,rfl,h.ls⟩⟩
theorem Own.lot {n Bo:Nat} {l:List α} {v:Value} {w:World} (h0:0<e.k) (h:Da.Own e T (Bs.of n) Bo l v w) (hn:n≤Bo) (hl:0<l.length):∃ g d,v=.slice (some ⟨g,0,none⟩) l.length d∧l.length≤d∧Lot e T n Bo g l w:=by
 have hi:=h.is h0 (show (Bs.of n).le Bo from ⟨hn,fun _ h=>h.elim⟩)
 obtain ⟨css,hlc,hc,hr⟩:=h
 rcases hr.2 with ⟨rfl,h1⟩ | ⟨g,cap,cur,rfl,hbo,hg,hcp,_,_,ht⟩
 ·omega
 ·refine ⟨g,cap,rfl,hcp,?_,⟨cur,hg⟩,hbo,Nat.le_trans hn hbo⟩
  obtain ⟨a,c,e,hh⟩:=hi
  rcases hh with ⟨e0,_⟩ | ⟨b,off,ha,hat⟩
  ·rw [e0] at hl;exact absurd hl (by simp)
  ·simp only [Value.slice.injEq] at e
   have e1:a=some ⟨g,0,none⟩:=e.1.symm
   rw [ha] at e1
   simp only [Option.some.injEq,Addr.mk.injEq] at e1
   obtain ⟨rfl,rfl,_⟩:=e1
   exact hat
theorem Lot.set {n Bo g:Nat} {l:List α} {w:World} (h:Lot e T n Bo g l w) (hT:T ∉ e.ts) {i:Nat} (hi:i<l.length) {x:α} {j:Nat} (hj:j<e.k) {u:Value} (hR:∀ cs,e.R (Bs.of n) l[i] cs w→e.R (Bs.of n) x (cs.set j u) w) :
  (∃ z,w.cell? ⟨g,i*e.k+j,none⟩=some z)∧w.frozen? ⟨g,i*e.k+j,none⟩=false∧Lot e T n Bo g (l.set i x) (w.setCell ⟨g,i*e.k+j,none⟩ u):=by
 obtain ⟨⟨h1,h2,h3⟩,⟨cur,hg⟩,hbo,hlo⟩:=h
 obtain ⟨cs,hc,hu⟩:=h3 i l[i] (List.getElem?_eq_getElem hi)
 simp only [Nat.zero_add] at h3 hu
 have hl:=e.len hc
 have hcell:=hu j cs[j] (List.getElem?_eq_getElem (by omega))
 have hk:Keeps (Bs.of n) e.ts w (w.setCell ⟨g,i*e.k+j,none⟩ u):=keeps_setCell _ u hg hT hlo
 refine ⟨⟨_,hcell⟩,by simp [World.frozen?,hg],⟨⟨by simpa using h1,.inr ⟨⟨_,La.setN (k:=i*e.k+j) (v:=u) hg⟩,fun h=>h⟩,fun k y hy=>?_⟩,⟨_,La.setN _ u hg⟩,hbo,hlo⟩⟩
 by_cases hik:i=k
 ·subst hik
  rw [List.getElem?_set_self hi] at hy
  obtain rfl:=Option.some.inj hy
  refine ⟨cs.set j u,e.keep (hR cs hc) hk,fun q y hq=>?_⟩
  rw [Nat.zero_add]
  by_cases hjq:j=q
  ·subst hjq
   rw [List.getElem?_set_self (by omega)] at hq
   rw [← Option.some.inj hq]
   exact World.cell?_setCell_same w _ u hcell
  ·rw [List.getElem?_set_ne hjq] at hq
   exact (World.cell?_setCell_other (w:=w) (a:=⟨g,i*e.k+j,none⟩) (b:=⟨g,i*e.k+q,none⟩) (v:=u) (by intro e;injection e with _ e;omega)).trans (hu q y hq)
 ·rw [List.getElem?_set_ne hik] at hy
  obtain ⟨ds,hD,hv⟩:=h3 k y hy
  refine ⟨ds,e.keep hD hk,fun q z hq=>?_⟩
  have hq2:q<e.k:=by rw [← e.len hD];exact (List.getElem?_eq_some_iff.1 hq).1
  rw [Nat.zero_add]
  refine (World.cell?_setCell_other (w:=w) (a:=⟨g,i*e.k+j,none⟩) (b:=⟨g,k*e.k+q,none⟩) (v:=u) (by
   intro e';injection e' with _ e'
   rcases Nat.lt_or_gt_of_ne hik with h1 | h1
   ·have:=Nat.mul_le_mul_right e.k (show i+1≤k from h1)
    rw [Nat.add_mul,Nat.one_mul] at this;omega
   ·have:=Nat.mul_le_mul_right e.k (show k+1≤i from h1)
    rw [Nat.add_mul,Nat.one_mul] at this;omega)).trans (hv q z hq)
end
def PostC (F:Value→World→Prop) (w:World) (e:Ending) (w':World):Prop:=∃ v,e=.returned v∧Below w.heap.size w w'∧F v w'
theorem eqlN (a:Option Addr) (n c:Nat) (w:World):(binOp .eql 25 (.slice a n c) (.slice none 0 0)).run Tryz.prog w=.ok (.bool a.isNone) w:=Lib.run_eql_slice_nil w _ _ a n c 0 0 Tryz.underlying25
theorem guardN (p q:Operand) (a:Option Addr) (n c:Nat) (w:World):(eqGuard .eql 25 p q (.slice a n c) (.slice none 0 0)).run Tryz.prog w=.ok () w:=rfl
attribute [local go_sem ↓] eqlN guardN
theorem cloneN_any (n:Nat) (l:List Ln) (x:Value) (w:World) (h:Is eN 59 (Bs.of n) l x w) (hn:n≤w.heap.size) (hm:l.length≤1000000) :
  Calls Tryz.prog 83 #[x] w (PostC (Da.Own eN 59 (Bs.of n) w.heap.size l) w):=by
 obtain ⟨a2,c2,rfl,hel⟩:=id h
 cases a2 with
 | none =>
  rcases hel with ⟨rfl,hc⟩ | ⟨b,off,e,_⟩
  ·obtain rfl:=hc rfl
   clear h
   go_enter Tryz.func83,Tryz.ntmps83
   go_wp2
   go_ret
   exact ⟨_,rfl,Below.refl _ _,Own.nil _ _ _⟩
  ·cases e
 | some ad =>
  have hb1:=below1 w (.cells #[] 59)
  obtain ⟨v2,w2,hrun,hown2,_,hbl,_⟩:=Own.append elemN 25 typesN (B:=Bs.of n) ⟨hn,fun _ h=>h.elim⟩ (by simp) (Own.made (Bs.of n) w w.heap.size (Nat.le_refl _)) (Is.stays eN 59 h hb1) (by simp;omega) (by decide)
  have hb2:=hbl _ _ (Nat.le_refl _) hb1
  have HO:=lH hown2
  obtain ⟨m,hmm⟩:∃ m,m=l.length:=⟨_,rfl⟩
  rw [← hmm] at hrun ⊢
  clear hown2 hbl h hel hmm
  go_enter Tryz.func83,Tryz.ntmps83
  go_wp2
  go_ret
  exact ⟨_,rfl,hb2,HO.out⟩
theorem eqlS (a:Option Addr) (n c:Nat) (w:World):(binOp .eql 26 (.slice a n c) (.slice none 0 0)).run Tryz.prog w=.ok (.bool a.isNone) w:=Lib.run_eql_slice_nil w _ _ a n c 0 0 Tryz.underlying26
theorem guardS (p q:Operand) (a:Option Addr) (n c:Nat) (w:World):(eqGuard .eql 26 p q (.slice a n c) (.slice none 0 0)).run Tryz.prog w=.ok () w:=rfl
attribute [local go_sem ↓] eqlS guardS
theorem cloneS_any (n:Nat) (l:List Sn) (x:Value) (w:World) (h:Is eS 54 (Bs.of n) l x w) (hn:n≤w.heap.size) (hm:l.length≤1000000) :
  Calls Tryz.prog 84 #[x] w (PostC (Da.Own eS 54 (Bs.of n) w.heap.size l) w):=by
 obtain ⟨a2,c2,rfl,hel⟩:=id h
 cases a2 with
 | none =>
  rcases hel with ⟨rfl,hc⟩ | ⟨b,off,e,_⟩
  ·obtain rfl:=hc rfl
   clear h
   go_enter Tryz.func84,Tryz.ntmps84
   go_wp2
   go_ret
   exact ⟨_,rfl,Below.refl _ _,Own.nil _ _ _⟩
  ·cases e
 | some ad =>
  have hb1:=below1 w (.cells #[] 54)
  obtain ⟨v2,w2,hrun,hown2,_,hbl,_⟩:=Own.append elemS 26 typesS (B:=Bs.of n) ⟨hn,fun _ h=>h.elim⟩ (by simp) (Own.made (Bs.of n) w w.heap.size (Nat.le_refl _)) (Is.stays eS 54 h hb1) (by simp;omega) (by decide)
  have hb2:=hbl _ _ (Nat.le_refl _) hb1
  have HO:=lH hown2
  obtain ⟨m,hmm⟩:∃ m,m=l.length:=⟨_,rfl⟩
  rw [← hmm] at hrun ⊢
  clear hown2 hbl h hel hmm
  go_enter Tryz.func84,Tryz.ntmps84
  go_wp2
  go_ret
  exact ⟨_,rfl,hb2,HO.out⟩
theorem eqlL (a:Option Addr) (n c:Nat) (w:World):(binOp .eql 55 (.slice a n c) (.slice none 0 0)).run Tryz.prog w=.ok (.bool a.isNone) w:=Lib.run_eql_slice_nil w _ _ a n c 0 0 Tryz.underlying55
theorem guardL (p q:Operand) (a:Option Addr) (n c:Nat) (w:World):(eqGuard .eql 55 p q (.slice a n c) (.slice none 0 0)).run Tryz.prog w=.ok () w:=rfl
attribute [local go_sem ↓] eqlL guardL
theorem cloneL_any (n:Nat) (l:List Lv) (x:Value) (w:World) (h:Is eL 106 (Bs.of n) l x w) (hn:n≤w.heap.size) (hm:l.length≤1000000) :
  Calls Tryz.prog 121 #[x] w (PostC (Da.Own eL 106 (Bs.of n) w.heap.size l) w):=by
 obtain ⟨a2,c2,rfl,hel⟩:=id h
 cases a2 with
 | none =>
  rcases hel with ⟨rfl,hc⟩ | ⟨b,off,e,_⟩
  ·obtain rfl:=hc rfl
   clear h
   go_enter Tryz.func121,Tryz.ntmps121
   go_wp2
   go_ret
   exact ⟨_,rfl,Below.refl _ _,Own.nil _ _ _⟩
  ·cases e
 | some ad =>
  have hb1:=below1 w (.cells #[] 106)
  obtain ⟨v2,w2,hrun,hown2,_,hbl,_⟩:=Own.append elemL 55 typesL (B:=Bs.of n) ⟨hn,fun _ h=>h.elim⟩ (by simp) (Own.made (Bs.of n) w w.heap.size (Nat.le_refl _)) (Is.stays eL 106 h hb1) (by simp;omega) (by decide)
  have hb2:=hbl _ _ (Nat.le_refl _) hb1
  have HO:=lH hown2
  obtain ⟨m,hmm⟩:∃ m,m=l.length:=⟨_,rfl⟩
  rw [← hmm] at hrun ⊢
  clear hown2 hbl h hel hmm
  go_enter Tryz.func121,Tryz.ntmps121
  go_wp2
  go_ret
  exact ⟨_,rfl,hb2,HO.out⟩
end Go.Proofs.YtjhocpcpkemcaaaGreat.Ex
namespace Go.Proofs.YtjhocpcpkemcaaaGreat.Ex
open Go.RowKit
open Rw
open Da
open Le (LL eL Lv OL Od eO elemL typesL cloneO_any flat flat_take_le flat_take_snoc low_setCell keeps_setCell Own.lower atL eL_cells)
def LotV {α:Type} (e:Enc α) (T:TypeId) (n Bo:Nat) (l:List α) (a:Option Addr) (d:Nat) (u:World):Prop:=(l=[]∧(a=none→d=0))∨∃ g,a=some ⟨g,0,none⟩∧Lot e T n Bo g l u
section
variable {α:Type} {e:Enc α} {T:TypeId}
theorem LotV.stays {n Bo d:Nat} {l:List α} {a:Option Addr} {w w':World} (h:LotV e T n Bo l a d w) (k:Below w.heap.size w w'):LotV e T n Bo l a d w':=h.imp id fun ⟨g,e,h⟩=>⟨g,e,h.stays k⟩
theorem LotV.is {n Bo d:Nat} {l:List α} {a:Option Addr} {w:World} (h:LotV e T n Bo l a d w):Is e T (Bs.of n) l (.slice a l.length d) w:=by
 rcases h with ⟨rfl,h⟩ | ⟨g,rfl,h⟩
 ·exact ⟨a,d,rfl,.inl ⟨rfl,h⟩⟩
 ·exact h.is
theorem Own.lotv {n Bo:Nat} {l:List α} {v:Value} {w:World} (h0:0<e.k) (h:Da.Own e T (Bs.of n) Bo l v w) (hn:n≤Bo):∃ a d,v=.slice a l.length d∧l.length≤d∧LotV e T n Bo l a d w:=by
 rcases Nat.eq_zero_or_pos l.length with h1 | h1
 ·obtain ⟨a,d,e1,h2⟩:=h.is h0 (show (Bs.of n).le Bo from ⟨hn,fun _ h=>h.elim⟩)
  have e0:=List.eq_nil_of_length_eq_zero h1
  refine ⟨a,d,e1,by omega,.inl ⟨e0,fun ha=>?_⟩⟩
  rcases h2 with ⟨_,h3⟩ | ⟨b,off,h3,_⟩
  ·exact h3 ha
  ·rw [ha] at h3;cases h3
 ·obtain ⟨g,d,e1,h2,h3⟩:=Own.lot h0 h hn h1
  exact ⟨_,d,e1,h2,.inr ⟨g,rfl,h3⟩⟩
theorem LotV.at {n Bo d:Nat} {l:List α} {a:Option Addr} {w:World} (h:LotV e T n Bo l a d w) {k:Nat} (hk:k<l.length):∃ g,a=some ⟨g,0,none⟩∧Lot e T n Bo g l w:=by
 rcases h with ⟨rfl,_⟩ | h
 ·cases hk
 ·exact h
end
theorem set_self' {α:Type} {l:List α} {k:Nat} (hk:k<l.length):l.set k l[k]=l:=List.set_getElem_self hk
theorem clonedLevels_any (n:Nat) (l:List Lv) (v:Value) (w:World) (h:LL (Bs.of n) l v w) (hn:n≤w.heap.size) (hm:l.length≤1000000) (hf:(flat l).length≤1000000) :
  Calls Tryz.prog 85 #[v] w (PostC (LL (Bs.of n) l) w):=by
 obtain ⟨a1,c1,rfl,h1⟩:=id h
 have HA:=lH h1
 have HFl:=lH hf
 have HC:=lH (cloneL_any n l _ w h hn hm)
 obtain ⟨N,hN⟩:∃ N,N=l.length:=⟨_,rfl⟩
 rw [← hN] at HC hm ⊢
 have HN:=lH hN
 clear h1 hf h hN
 go_enter Tryz.func85,Tryz.ntmps85
 go_wp2_with fail
 refine HC.out.mono ?_
 rintro e w1 ⟨v1,rfl,hb1,ho1⟩
 obtain ⟨a2,d2,rfl,_,hl⟩:=Own.lotv (by decide) ho1 hn
 rw [← HN.out]
 have HL:=lH hl
 clear hl ho1
 go_wp2
 go_loopw [4,10] (fun _ i wr=>∃ k:Nat,k≤N∧i=.int .i64 k∧Below w.heap.size w wr∧LotV eL 106 n w.heap.size l a2 d2 wr) (fun _ i _=>N - (intOf i).toNat)
 case atStart=>exact ⟨0,Nat.zero_le _,rfl,hb1,HL.out⟩
 case round =>
  obtain ⟨k,hk,rfl,hb,hlot⟩:=hrel
  have HR:=lH hlot
  clear hlot
  by_cases hlt:k<N
  ·have hlt2:(k:Int)<N:=by omega
   have hkl:k<l.length:=by rw [← HN.out];exact hlt
   rcases HA.out with ⟨e,_⟩ | ⟨b,off,rfl,hat⟩
   ·rw [e] at hkl;cases hkl
   obtain ⟨g,rfl,hg⟩:=HR.out.at hkl
   have HG:=lH hg
   have hat2:=Lies.keep eL 106 hat (Keeps.of_below hb)
   have hbb:=hat2.1
   obtain ⟨x,q0,q1,hx⟩:=atL hat2 k hkl
   have hle:=flat_take_le l (k+1)
   rw [flat_take_snoc hkl,List.length_append] at hle
   have hosl:l[k].2.length≤1000000:=by have:=HFl.out;omega
   have HX0:=lH hx
   obtain ⟨a3,c3,rfl⟩:=hx.len
   obtain ⟨m3,hm3⟩:∃ m,l[k].2.length=m:=⟨_,rfl⟩
   obtain ⟨pr,hpr⟩:∃ p,l[k].1=p:=⟨_,rfl⟩
   rw [hm3] at q1
   rw [hpr] at q0
   obtain ⟨V,hV⟩:∃ V,V=wr.alloc (.cells #[.int .i64 pr,.slice a3 m3 c3] 106):=⟨_,rfl⟩
   have hbV:Below wr.heap.size wr V:=hV ▸ below1 wr _
   have hgz:=hg.ls.1
   have HV:=lH hV
   have HM3:=lH hm3
   have HOL:=lH (cloneO_any (Bs.of n) l[k].2 (.slice a3 l[k].2.length c3) V (Is.stays eO 74 HX0.out hbV) ⟨Nat.le_trans hn (nx hb hbV).size,fun _ h=>h.elim⟩ hosl)
   rw [hm3] at HOL
   clear hV hle hx hg hat hat2 hm3 hpr
   go_wp2_with fail
   rw [← HV.out]
   refine HOL.out.mono ?_
   rintro e w2 ⟨v2,rfl,hb2,ho2⟩
   have hi2:=ho2.is (show 0<eO.k by decide) (show (Bs.of n).le V.heap.size from ⟨Nat.le_trans hn (nx hb hbV).size,fun _ h=>h.elim⟩)
   obtain ⟨a4,c4,rfl⟩:=hi2.len
   have hb3:=nx hb (nx hbV hb2)
   have hs:=(HG.out.stays (nx hbV hb2)).set typesL hkl (x:=l[k]) (j:=1) (by decide) (u:=.slice a4 l[k].2.length c4) (fun cs hc=>by obtain ⟨y,rfl,_⟩:=eL_cells hc;exact ⟨[_],[_],rfl,rfl,_,rfl,hi2⟩)
   rw [set_self' hkl] at hs
   obtain ⟨⟨z,hz⟩,hz2,hs3⟩:=hs
   have hz:w2.cell? ⟨g,k*2+1,none⟩=some z:=hz
   have hz2:w2.frozen? ⟨g,k*2+1,none⟩=false:=hz2
   have HF:=lH (show Below w.heap.size w (w2.setCell ⟨g,k*2+1,none⟩ (.slice a4 l[k].2.length c4))∧LotV eL 106 n w.heap.size l (some ⟨g,0,none⟩) d2 (w2.setCell ⟨g,k*2+1,none⟩ (.slice a4 l[k].2.length c4)) from ⟨hb3.trans (low_setCell _ _ HG.out.bo),.inr ⟨g,rfl,hs3⟩⟩)
   rw [HM3.out] at HF ⊢
   clear q0 q1 hs3 ho2 hi2
   go_wp2
   go_roundw
   case rel=>exact ⟨k+1,by omega,by go_num,HF.out.1,HF.out.2⟩
   case measure=>simp [intOf];omega
  ·obtain rfl:k=N:=by omega
   have HF:=lH (show LL (Bs.of n) l (.slice a2 k d2) wr from by have:=HR.out.is;rw [← HN.out] at this;exact this)
   go_wp2
   go_ret
   exact ⟨_,rfl,hb,HF.out⟩
end Go.Proofs.YtjhocpcpkemcaaaGreat.Ex
namespace Go.Proofs.YtjhocpcpkemcaaaGreat.Ex
open Go.RowKit
open Rw
open Da
open Le (LL eL Lv flat low_setCell keeps_setCell)
open La (Ln LN LB cN eH elemH typesH hl_is is_hl)
open Ac (Hd Pu HL)
open Se (NL eS Sn Rp)
def LN3 (n Bo:Nat) (l:List Ln) (v:Value) (u:World):Prop:=∃ a d,v=.slice a l.length d∧LotV eN 59 n Bo l a d u∧l.length≤d
def NC3 (n:Nat) (l:List Sn) (v:Value) (u:World):Prop:=NL (Bs.of n) l v u∧capOk v
theorem LN3.stays {n Bo:Nat} {l:List Ln} {v:Value} {w w':World} (h:LN3 n Bo l v w) (k:Below w.heap.size w w'):LN3 n Bo l v w':=by
 obtain ⟨a,d,e,h,c⟩:=h;exact ⟨a,d,e,h.stays k,c⟩
theorem NC3.stays {n:Nat} {l:List Sn} {v:Value} {w w':World} (h:NC3 n l v w) (k:Below w.heap.size w w'):NC3 n l v w':=⟨Is.stays eS 54 h.1 k,h.2⟩
structure XC (n Bo:Nat) (x:Xc) (f l s i o:Value) (b:Nat) (u:World):Prop where
 box:XB n x f l s i o b u
 own:LN3 n Bo x.lanes l u
 cap:capOk s
theorem XC.stays {n Bo:Nat} {x:Xc} {f l s i o:Value} {b:Nat} {w w':World} (h:XC n Bo x f l s i o b w) (k:Below w.heap.size w w'):XC n Bo x f l s i o b w':=⟨h.box.stays k,h.own.stays k,h.cap⟩
abbrev XC3 (n Bo:Nat) (x:Xc) (a1:Option Addr) (m1 d1:Nat) (a2:Option Addr) (m2 d2:Nat) (a3:Option Addr) (m3 d3:Nat) (a4:Option Addr) (m4 d4:Nat) (a5:Option Addr) (m5 d5:Nat) (b:Nat) (u:World):Prop:=XC n Bo x (.slice a1 m1 d1) (.slice a2 m2 d2) (.slice a3 m3 d3) (.slice a4 m4 d4) (.slice a5 m5 d5) b u
theorem xc3_made {n Bo:Nat} {x:Xc} {f l s i o:Value} {b:Nat} {u:World} {c:Array Value} (hb:u.heap[b]?=some (.cells c 28 (0,0))) (hlo:Bo≤b) (hn:n≤Bo) (h1:HL n x.free f u) (h2:LN3 n Bo x.lanes l u) (h3:NC3 n x.sess s u) (h4:HL n x.inn i u) (h5:HL n x.out o u) :
  XC n Bo x f l s i o b (u.setRow b #[f,l,s,i,o]):=by
 have hl:NsL n x.lanes l u∧capOk l:=by obtain ⟨a,d,rfl,h,c⟩:=h2;exact ⟨h.is,c⟩
 have hd:XD n x f l s i o u:=⟨h1,hl.1,h3.1,h4,h5,hl.2⟩
 have kp:∀ ts,28 ∉ ts→Da.Keeps (Bs.of n) ts u (u.setRow b #[f,l,s,i,o]):=fun ts ht=>Bk.keeps_setRow (B:=Bs.of n) _ hb ht (Nat.le_trans hn hlo)
 refine ⟨⟨setRow_heap u _ _ _ _ _ hb,Nat.le_trans hn hlo,hd.keep (kp _ (by decide))⟩,?_,h3.2⟩
 obtain ⟨a,d,rfl,h,c⟩:=h2
 refine ⟨a,d,rfl,h.imp id fun ⟨g,e,k⟩=>⟨g,e,Lies.keep eN 59 k.ls (kp _ (by decide)),?_,k.bo,k.lo⟩,c⟩
 obtain ⟨cur,hc⟩:=k.ty
 have hne:g≠b:=fun e=>by rw [e,hb] at hc;injection hc with hc;injection hc with _ e2;exact absurd e2 (by decide)
 exact ⟨cur,(setRow_other u b g _ hne).trans hc⟩
theorem XC.put {n Bo:Nat} {x:Xc} {f s i o:Value} {g m d b k j:Nat} {u:World} {y:Value} (h:XC n Bo x f (.slice (some ⟨g,0,none⟩) m d) s i o b u) (hk:k<x.lanes.length) (hj:j<6) (hR:∀ cs,eN.R (Bs.of n) x.lanes[k] cs u→eN.R (Bs.of n) x.lanes[k] (cs.set j y) u) :
  (∃ z,u.cell? ⟨g,k*6+j,none⟩=some z)∧u.frozen? ⟨g,k*6+j,none⟩=false∧XC n Bo x f (.slice (some ⟨g,0,none⟩) m d) s i o b (u.setCell ⟨g,k*6+j,none⟩ y)∧Bo≤g∧∀ ts,59 ∉ ts→Da.Keeps (Bs.of n) ts u (u.setCell ⟨g,k*6+j,none⟩ y):=by
 obtain ⟨hb,⟨a,d',e1,hl,hcp⟩,hc⟩:=h
 obtain ⟨g',e2,hg⟩:=hl.at hk
 simp only [Value.slice.injEq] at e1
 obtain ⟨e3,rfl,rfl⟩:=e1
 rw [e2] at e3
 simp only [Option.some.injEq,Addr.mk.injEq] at e3
 obtain ⟨rfl,_⟩:=e3
 obtain ⟨h1,h2,h3⟩:=hg.set typesN hk (x:=x.lanes[k]) (j:=j) hj (u:=y) hR
 rw [set_self' hk] at h3
 obtain ⟨cur,hgb⟩:=hg.ty
 have hne:b≠g:=fun e=>by have:=hb.bk;rw [e,hgb] at this;injection this with this;injection this with _ e2;exact absurd e2 (by decide)
 have kp:∀ ts,59 ∉ ts→Da.Keeps (Bs.of n) ts u (u.setCell ⟨g,k*6+j,none⟩ y):=fun ts ht=>keeps_setCell _ y hgb ht hg.lo
 exact ⟨h1,h2,⟨⟨(Below.heap_setCell u ⟨g,k*6+j,none⟩ y b hne).trans hb.bk,hb.lo,La.hl_keep hb.d.free (kp _ (by decide)),h3.is,Is.keep _ _ hb.d.sess (kp _ (by decide)),La.hl_keep hb.d.inn (kp _ (by decide)),La.hl_keep hb.d.out (kp _ (by decide)),hb.d.cap⟩,⟨_,_,rfl,.inr ⟨g,rfl,h3⟩,hcp⟩,hc⟩,hg.bo,kp⟩
def CutC (n:Nat) (x:Xc) (V:World) (v:Value) (u:World):Prop :=
 ∃ a1 m1 d1 a2 m2 d2 a3 m3 d3 a4 m4 d4 a5 m5 d5 b,v=.pointer (some ⟨b,0,none⟩)∧XC3 n V.heap.size x a1 m1 d1 a2 m2 d2 a3 m3 d3 a4 m4 d4 a5 m5 d5 b u∧Below V.heap.size V u
theorem cloned1 (n:Nat) (x:Xc) (f l s i o:Value) (w V:World) (hx:XB n x f l s i o w.heap.size V) (hn:n≤w.heap.size) (hbV:Below w.heap.size w V) (hs:SmX x) :
  (∀ u,Below V.heap.size V u→Calls Tryz.prog 82 #[f] u fun e w'=>∃ v,e=.returned v∧Below u.heap.size u w'∧HL n x.free v w') ∧
  (∀ u,Below V.heap.size V u→Calls Tryz.prog 83 #[l] u fun e w'=>∃ v,e=.returned v∧Below u.heap.size u w'∧LN3 n V.heap.size x.lanes v w') ∧
  (∀ u,Below V.heap.size V u→Calls Tryz.prog 84 #[s] u fun e w'=>∃ v,e=.returned v∧Below u.heap.size u w'∧NC3 n x.sess v w') ∧
  (∀ u,Below V.heap.size V u→Calls Tryz.prog 82 #[i] u fun e w'=>∃ v,e=.returned v∧Below u.heap.size u w'∧HL n x.inn v w') ∧
  (∀ u,Below V.heap.size V u→Calls Tryz.prog 82 #[o] u fun e w'=>∃ v,e=.returned v∧Below u.heap.size u w'∧HL n x.out v w'):=by
 have sz:∀ u,Below V.heap.size V u→w.heap.size≤u.heap.size:=fun u hu=>Nat.le_trans hbV.size hu.size
 have le:∀ u,Below V.heap.size V u→n≤u.heap.size:=fun u hu=>Nat.le_trans hn (sz u hu)
 have hh:∀ (l:List Hd) (v:Value),HL n l v V→l.length≤1000→∀ u,Below V.heap.size V u→Calls Tryz.prog 82 #[v] u fun e w'=>∃ v,e=.returned v∧Below u.heap.size u w'∧HL n l v w':=fun l v h hm u hu=>by
  refine (La.cloneH_is (La.hl_stays h hu) (le u hu) (by omega)).mono ?_
  rintro e w' ⟨a,m,c,rfl,hb,hl⟩
  exact ⟨_,rfl,hb,hl⟩
 refine ⟨hh _ _ hx.d.free hs.free,fun u hu=>?_,fun u hu=>?_,hh _ _ hx.d.inn hs.inn,hh _ _ hx.d.out hs.out⟩
 ·refine (cloneN_any n x.lanes l u (Is.stays eN 59 hx.d.lanes hu) (le u hu) (by have:=hs.lanes;omega)).mono ?_
  rintro e w' ⟨v,rfl,hb,ho⟩
  obtain ⟨a,d,rfl,c,hl⟩:=Own.lotv (by decide) ho (le u hu)
  refine ⟨_,rfl,hb,a,d,rfl,hl.imp id fun ⟨g,e,k⟩=>⟨g,e,k.ls,k.ty,Nat.le_trans hu.size k.bo,k.lo⟩,c⟩
 ·refine (cloneS_any n x.sess s u (Is.stays eS 54 hx.d.sess hu) (le u hu) (by have:=hs.sess;omega)).mono ?_
  rintro e w' ⟨v,rfl,hb,ho⟩
  exact ⟨_,rfl,hb,ho.is (by decide) (show (Bs.of n).le u.heap.size from ⟨le u hu,fun _ h=>h.elim⟩),Own.cap ho⟩
theorem cloned_cut (n:Nat) (x:Xc) (v:Value) (w:World) (h:XV n x v w) (hn:n≤w.heap.size) (hs:SmX x) :
  Calls Tryz.prog 43 #[v] w (PostC (fun v u=>∃ f l s i o,v=.agg #[f,l,s,i,o]∧XD n x f l s i o u∧LN3 n w.heap.size x.lanes l u∧capOk s) w):=by
 obtain ⟨_,_,_,_,_,rfl,hd⟩:=h
 obtain ⟨p1,q1,p2,q2,p3,q3,p4,q4,p5,q5,rfl,rfl,rfl,rfl,rfl⟩:=hd.open'
 obtain ⟨n1,e1⟩:∃ q,x.free.length=q:=⟨_,rfl⟩
 obtain ⟨n2,e2⟩:∃ q,x.lanes.length=q:=⟨_,rfl⟩
 obtain ⟨n3,e3⟩:∃ q,x.sess.length=q:=⟨_,rfl⟩
 obtain ⟨n4,e4⟩:∃ q,x.inn.length=q:=⟨_,rfl⟩
 obtain ⟨n5,e5⟩:∃ q,x.out.length=q:=⟨_,rfl⟩
 rw [e1,e2,e3,e4,e5] at hd ⊢
 obtain ⟨V,hV⟩:∃ V,V=(w.alloc (.cells #[.slice p1 n1 q1,.slice p2 n2 q2,.slice p3 n3 q3,.slice p4 n4 q4,.slice p5 n5 q5] 28)).alloc (.cells #[.slice none 0 0,.slice none 0 0,.slice none 0 0,.slice none 0 0,.slice none 0 0] 28):=⟨_,rfl⟩
 have hbV:Below w.heap.size w V:=hV ▸ below2 w _ _
 have hx:XB n x (.slice p1 n1 q1) (.slice p2 n2 q2) (.slice p3 n3 q3) (.slice p4 n4 q4) (.slice p5 n5 q5) w.heap.size V:=by rw [hV];exact (XB.made hd hn).stays (below1 _ _)
 have HZ:=lH (show V.heap.size=w.heap.size+2 by rw [hV];simp)
 have HB1:=lH (show V.heap[w.heap.size+1]?=some (.cells #[.slice none 0 0,.slice none 0 0,.slice none 0 0,.slice none 0 0,.slice none 0 0] 28 (0,0)) by rw [hV,heap_al,if_pos (by simp)])
 have HC:=lH (cloned1 n x _ _ _ _ _ w V hx hn hbV hs)
 have HX:=lH hx
 have HBV:=lH hbV
 have HS:=lH hs
 have HN2:=lH e2
 have hm2:n2≤1000:=by rw [← e2];exact hs.lanes
 have hF:∀ u,Below V.heap.size V u→u.cell? ⟨w.heap.size,0,none⟩=some (.slice p1 n1 q1)∧u.cell? ⟨w.heap.size,1,none⟩=some (.slice p2 n2 q2)∧u.cell? ⟨w.heap.size,2,none⟩=some (.slice p3 n3 q3)∧u.cell? ⟨w.heap.size,3,none⟩=some (.slice p4 n4 q4)∧u.cell? ⟨w.heap.size,4,none⟩=some (.slice p5 n5 q5):=fun u hu=>(hx.stays hu).cells
 have HVn:=lH (show n≤V.heap.size from Nat.le_trans hn hbV.size)
 have HV:=lH hV
 clear hV hx hs hd hbV e1 e2 e3 e4 e5
 go_enter Tryz.func43,Tryz.ntmps43
 go_upto_region 2 with fail
 rw [← HV.out]
 go_cut [3] (CutC n x V)
 case first =>
  as_aux_lemma =>
   refine Rh.rg (fun u=>Below V.heap.size V u) (fun _=>True) (fun _ _ h k=>nx h k) (fun _ _ _ _=>trivial) ((Below.refl _ _).drew) (trivial) [0,1,3,4,6,7,9,10,12,13,2,5,8,11,14,15,16,17] ?_
   repeat (first | (refine Rh.Steps.sk ?_;simp only [Act.put,sA,sB,sC]) | (refine Rh.Steps.pu (v:=?_) ?_ ?_;rotate_left;(intro w_ hS_;have hk_:=hF w_ hS_;go_simp<;>with_reducible rfl);simp only [Act.put,sA,sB,sC]))
   refine La.steps_two (i:=2) (j:=16) (ord':=[2,5,8,11,14,15,17]) (by kernel_rfl) rfl ?_ ?_
   ·refine Rh.One.call (HL n x.free) (fun _ _ _ h k=>La.hl_stays h k) (f:=?_) (args:=?_) (by rfl) (by rfl) ?_ ?_ ?_
    rotate_left 2
    ·intro w_ hS_ hG_;go_simp<;>first | with_reducible rfl | (constructor<;>with_reducible rfl)
    ·intro w_ hS_ hG_;(go_at_call 82;exact HC.out.1 w_ hS_)
    intro v1 u_ hv1
    simp only [Act.put,sA,sB,sC]
    obtain ⟨a1,m1,d1,rfl⟩:∃ a m d,v1=.slice a m d:=by obtain ⟨a,d,h⟩:=La.hl_slice hv1;exact ⟨a,_,d,h⟩
    repeat (first | (refine Rh.Steps.sk ?_;simp only [Act.put,sA,sB,sC]) | (refine Rh.Steps.pu (v:=?_) ?_ ?_;rotate_left;(intro w_ hS_;have hk_:=hF w_ hS_;go_simp<;>with_reducible rfl);simp only [Act.put,sA,sB,sC]))
    refine La.steps_two (i:=5) (j:=16) (ord':=[5,8,11,14,15,17]) (by kernel_rfl) rfl ?_ ?_
    ·refine Rh.One.call (LN3 n V.heap.size x.lanes) (fun _ _ _ h k=>LN3.stays h k) (f:=?_) (args:=?_) (by rfl) (by rfl) ?_ ?_ ?_
     rotate_left 2
     ·intro w_ hS_ hG_;go_simp<;>first | with_reducible rfl | (constructor<;>with_reducible rfl)
     ·intro w_ hS_ hG_;(go_at_call 83;exact HC.out.2.1 w_ hS_)
     intro v2 u_ hv2
     simp only [Act.put,sA,sB,sC]
     obtain ⟨a2,m2,d2,rfl⟩:∃ a m d,v2=.slice a m d:=by obtain ⟨a,d,h,_⟩:=hv2;exact ⟨a,_,d,h⟩
     repeat (first | (refine Rh.Steps.sk ?_;simp only [Act.put,sA,sB,sC]) | (refine Rh.Steps.pu (v:=?_) ?_ ?_;rotate_left;(intro w_ hS_;have hk_:=hF w_ hS_;go_simp<;>with_reducible rfl);simp only [Act.put,sA,sB,sC]))
     refine La.steps_two (i:=8) (j:=16) (ord':=[8,11,14,15,17]) (by kernel_rfl) rfl ?_ ?_
     ·refine Rh.One.call (NC3 n x.sess) (fun _ _ _ h k=>NC3.stays h k) (f:=?_) (args:=?_) (by rfl) (by rfl) ?_ ?_ ?_
      rotate_left 2
      ·intro w_ hS_ hG_;go_simp<;>first | with_reducible rfl | (constructor<;>with_reducible rfl)
      ·intro w_ hS_ hG_;(go_at_call 84;exact HC.out.2.2.1 w_ hS_)
      intro v3 u_ hv3
      simp only [Act.put,sA,sB,sC]
      obtain ⟨a3,m3,d3,rfl⟩:∃ a m d,v3=.slice a m d:=by obtain ⟨a,d,h⟩:=hv3.1.len;exact ⟨a,_,d,h⟩
      repeat (first | (refine Rh.Steps.sk ?_;simp only [Act.put,sA,sB,sC]) | (refine Rh.Steps.pu (v:=?_) ?_ ?_;rotate_left;(intro w_ hS_;have hk_:=hF w_ hS_;go_simp<;>with_reducible rfl);simp only [Act.put,sA,sB,sC]))
      refine La.steps_two (i:=11) (j:=16) (ord':=[11,14,15,17]) (by kernel_rfl) rfl ?_ ?_
      ·refine Rh.One.call (HL n x.inn) (fun _ _ _ h k=>La.hl_stays h k) (f:=?_) (args:=?_) (by rfl) (by rfl) ?_ ?_ ?_
       rotate_left 2
       ·intro w_ hS_ hG_;go_simp<;>first | with_reducible rfl | (constructor<;>with_reducible rfl)
       ·intro w_ hS_ hG_;(go_at_call 82;exact HC.out.2.2.2.1 w_ hS_)
       intro v4 u_ hv4
       simp only [Act.put,sA,sB,sC]
       obtain ⟨a4,m4,d4,rfl⟩:∃ a m d,v4=.slice a m d:=by obtain ⟨a,d,h⟩:=La.hl_slice hv4;exact ⟨a,_,d,h⟩
       repeat (first | (refine Rh.Steps.sk ?_;simp only [Act.put,sA,sB,sC]) | (refine Rh.Steps.pu (v:=?_) ?_ ?_;rotate_left;(intro w_ hS_;have hk_:=hF w_ hS_;go_simp<;>with_reducible rfl);simp only [Act.put,sA,sB,sC]))
       refine La.steps_two (i:=14) (j:=16) (ord':=[14,15,17]) (by kernel_rfl) rfl ?_ ?_
       ·refine Rh.One.call (HL n x.out) (fun _ _ _ h k=>La.hl_stays h k) (f:=?_) (args:=?_) (by rfl) (by rfl) ?_ ?_ ?_
        rotate_left 2
        ·intro w_ hS_ hG_;go_simp<;>first | with_reducible rfl | (constructor<;>with_reducible rfl)
        ·intro w_ hS_ hG_;(go_at_call 82;exact HC.out.2.2.2.2 w_ hS_)
        intro v5 u_ hv5
        simp only [Act.put,sA,sB,sC]
        obtain ⟨a5,m5,d5,rfl⟩:∃ a m d,v5=.slice a m d:=by obtain ⟨a,d,h⟩:=La.hl_slice hv5;exact ⟨a,_,d,h⟩
        repeat (first | (refine Rh.Steps.sk ?_;simp only [Act.put,sA,sB,sC]) | (refine Rh.Steps.pu (v:=?_) ?_ ?_;rotate_left;(intro w_ hS_;have hk_:=hF w_ hS_;go_simp<;>with_reducible rfl);simp only [Act.put,sA,sB,sC]))
        refine Rh.Steps.forced (i:=16) (by kernel_rfl) ?_
        refine Rh.One.val (La.AtB 28 #[.slice none 0 0,.slice none 0 0,.slice none 0 0,.slice none 0 0,.slice none 0 0] V.heap.size) (fun _ _ _ h k=>La.AtB.stays h k) (by rfl) (by rfl) ?_ ?_
        ·intro w_ hS_ _
         refine ⟨_,_,?_,below1 w_ (.cells #[.slice none 0 0,.slice none 0 0,.slice none 0 0,.slice none 0 0,.slice none 0 0] 28),La.AtB.made _ _ hS_.size⟩
         go_simp
        intro v9 u9 hv9
        obtain ⟨b9,rfl,hb9,_⟩:=hv9
        simp only [Act.put,sA,sB,sC]
        repeat (first | (refine Rh.Steps.sk ?_;simp only [Act.put,sA,sB,sC]) | (refine Rh.Steps.pu (v:=?_) ?_ ?_;rotate_left;(intro w_ hS_;have hk_:=hF w_ hS_;go_simp<;>with_reducible rfl);simp only [Act.put,sA,sB,sC]))
        repeat (first | (refine Rh.Steps.sk ?_;simp only [Act.put,sA,sB,sC]) | (refine Rh.Steps.pu (v:=?_) ?_ ?_;rotate_left;(intro w_ hS_;have hk_:=hF w_ hS_;go_simp<;>with_reducible rfl);simp only [Act.put,sA,sB,sC]))
        refine Rh.Steps.forced (i:=17) (by kernel_rfl) ?_
        refine Rh.One.store (fun u=>XC3 n V.heap.size x a1 m1 d1 a2 m2 d2 a3 m3 d3 a4 m4 d4 a5 m5 d5 b9 u∧Below V.heap.size V u) (fun _ _ h k=>⟨h.1.stays k,nx h.2 k⟩) (by rfl) (by rfl) ?_ ?_
        ·intro w_ hS_ hG_
         obtain ⟨⟨⟨⟨⟨⟨hG0,f1⟩,f2⟩,f3⟩,f4⟩,f5⟩,f9⟩:=hG_
         have hb:=f9.inv.2
         have hp:plain 5 w_ b9=true:=plain_is hb rfl
         refine ⟨_,?_,below_setRow hS_ f9.inv.1 _,xc3_made hb f9.inv.1 HVn.out f1 f2 f3 f4 f5,below_setRow hS_ f9.inv.1 _⟩
         clear f1 f2 f3 f4 f5 f9 hG0 hb
         go_simp
        refine Rh.Steps.nil (by kernel_rfl) ?_
        intro w9_ _ hG9_
        go_wp2_with fail
        go_meet
        exact ⟨_,_,_,_,_,_,_,_,_,_,_,_,_,_,_,_,rfl,hG9_.1,hG9_.2⟩
       ·refine Rh.One.val (La.AtB 28 #[.slice none 0 0,.slice none 0 0,.slice none 0 0,.slice none 0 0,.slice none 0 0] V.heap.size) (fun _ _ _ h k=>La.AtB.stays h k) (by rfl) (by rfl) ?_ ?_
        ·intro w_ hS_ _
         refine ⟨_,_,?_,below1 w_ (.cells #[.slice none 0 0,.slice none 0 0,.slice none 0 0,.slice none 0 0,.slice none 0 0] 28),La.AtB.made _ _ hS_.size⟩
         go_simp
        intro v9 u9 hv9
        obtain ⟨b9,rfl,hb9,_⟩:=hv9
        simp only [Act.put,sA,sB,sC]
        repeat (first | (refine Rh.Steps.sk ?_;simp only [Act.put,sA,sB,sC]) | (refine Rh.Steps.pu (v:=?_) ?_ ?_;rotate_left;(intro w_ hS_;have hk_:=hF w_ hS_;go_simp<;>with_reducible rfl);simp only [Act.put,sA,sB,sC]))
        refine Rh.Steps.forced (i:=14) (by kernel_rfl) ?_
        refine Rh.One.call (HL n x.out) (fun _ _ _ h k=>La.hl_stays h k) (f:=?_) (args:=?_) (by rfl) (by rfl) ?_ ?_ ?_
        rotate_left 2
        ·intro w_ hS_ hG_;go_simp<;>first | with_reducible rfl | (constructor<;>with_reducible rfl)
        ·intro w_ hS_ hG_;(go_at_call 82;exact HC.out.2.2.2.2 w_ hS_)
        intro v5 u_ hv5
        simp only [Act.put,sA,sB,sC]
        obtain ⟨a5,m5,d5,rfl⟩:∃ a m d,v5=.slice a m d:=by obtain ⟨a,d,h⟩:=La.hl_slice hv5;exact ⟨a,_,d,h⟩
        repeat (first | (refine Rh.Steps.sk ?_;simp only [Act.put,sA,sB,sC]) | (refine Rh.Steps.pu (v:=?_) ?_ ?_;rotate_left;(intro w_ hS_;have hk_:=hF w_ hS_;go_simp<;>with_reducible rfl);simp only [Act.put,sA,sB,sC]))
        repeat (first | (refine Rh.Steps.sk ?_;simp only [Act.put,sA,sB,sC]) | (refine Rh.Steps.pu (v:=?_) ?_ ?_;rotate_left;(intro w_ hS_;have hk_:=hF w_ hS_;go_simp<;>with_reducible rfl);simp only [Act.put,sA,sB,sC]))
        refine Rh.Steps.forced (i:=17) (by kernel_rfl) ?_
        refine Rh.One.store (fun u=>XC3 n V.heap.size x a1 m1 d1 a2 m2 d2 a3 m3 d3 a4 m4 d4 a5 m5 d5 b9 u∧Below V.heap.size V u) (fun _ _ h k=>⟨h.1.stays k,nx h.2 k⟩) (by rfl) (by rfl) ?_ ?_
        ·intro w_ hS_ hG_
         obtain ⟨⟨⟨⟨⟨⟨hG0,f1⟩,f2⟩,f3⟩,f4⟩,f9⟩,f5⟩:=hG_
         have hb:=f9.inv.2
         have hp:plain 5 w_ b9=true:=plain_is hb rfl
         refine ⟨_,?_,below_setRow hS_ f9.inv.1 _,xc3_made hb f9.inv.1 HVn.out f1 f2 f3 f4 f5,below_setRow hS_ f9.inv.1 _⟩
         clear f1 f2 f3 f4 f5 f9 hG0 hb
         go_simp
        refine Rh.Steps.nil (by kernel_rfl) ?_
        intro w9_ _ hG9_
        go_wp2_with fail
        go_meet
        exact ⟨_,_,_,_,_,_,_,_,_,_,_,_,_,_,_,_,rfl,hG9_.1,hG9_.2⟩
      ·refine Rh.One.val (La.AtB 28 #[.slice none 0 0,.slice none 0 0,.slice none 0 0,.slice none 0 0,.slice none 0 0] V.heap.size) (fun _ _ _ h k=>La.AtB.stays h k) (by rfl) (by rfl) ?_ ?_
       ·intro w_ hS_ _
        refine ⟨_,_,?_,below1 w_ (.cells #[.slice none 0 0,.slice none 0 0,.slice none 0 0,.slice none 0 0,.slice none 0 0] 28),La.AtB.made _ _ hS_.size⟩
        go_simp
       intro v9 u9 hv9
       obtain ⟨b9,rfl,hb9,_⟩:=hv9
       simp only [Act.put,sA,sB,sC]
       repeat (first | (refine Rh.Steps.sk ?_;simp only [Act.put,sA,sB,sC]) | (refine Rh.Steps.pu (v:=?_) ?_ ?_;rotate_left;(intro w_ hS_;have hk_:=hF w_ hS_;go_simp<;>with_reducible rfl);simp only [Act.put,sA,sB,sC]))
       refine Rh.Steps.forced (i:=11) (by kernel_rfl) ?_
       refine Rh.One.call (HL n x.inn) (fun _ _ _ h k=>La.hl_stays h k) (f:=?_) (args:=?_) (by rfl) (by rfl) ?_ ?_ ?_
       rotate_left 2
       ·intro w_ hS_ hG_;go_simp<;>first | with_reducible rfl | (constructor<;>with_reducible rfl)
       ·intro w_ hS_ hG_;(go_at_call 82;exact HC.out.2.2.2.1 w_ hS_)
       intro v4 u_ hv4
       simp only [Act.put,sA,sB,sC]
       obtain ⟨a4,m4,d4,rfl⟩:∃ a m d,v4=.slice a m d:=by obtain ⟨a,d,h⟩:=La.hl_slice hv4;exact ⟨a,_,d,h⟩
       repeat (first | (refine Rh.Steps.sk ?_;simp only [Act.put,sA,sB,sC]) | (refine Rh.Steps.pu (v:=?_) ?_ ?_;rotate_left;(intro w_ hS_;have hk_:=hF w_ hS_;go_simp<;>with_reducible rfl);simp only [Act.put,sA,sB,sC]))
       refine Rh.Steps.forced (i:=14) (by kernel_rfl) ?_
       refine Rh.One.call (HL n x.out) (fun _ _ _ h k=>La.hl_stays h k) (f:=?_) (args:=?_) (by rfl) (by rfl) ?_ ?_ ?_
       rotate_left 2
       ·intro w_ hS_ hG_;go_simp<;>first | with_reducible rfl | (constructor<;>with_reducible rfl)
       ·intro w_ hS_ hG_;(go_at_call 82;exact HC.out.2.2.2.2 w_ hS_)
       intro v5 u_ hv5
       simp only [Act.put,sA,sB,sC]
       obtain ⟨a5,m5,d5,rfl⟩:∃ a m d,v5=.slice a m d:=by obtain ⟨a,d,h⟩:=La.hl_slice hv5;exact ⟨a,_,d,h⟩
       repeat (first | (refine Rh.Steps.sk ?_;simp only [Act.put,sA,sB,sC]) | (refine Rh.Steps.pu (v:=?_) ?_ ?_;rotate_left;(intro w_ hS_;have hk_:=hF w_ hS_;go_simp<;>with_reducible rfl);simp only [Act.put,sA,sB,sC]))
       repeat (first | (refine Rh.Steps.sk ?_;simp only [Act.put,sA,sB,sC]) | (refine Rh.Steps.pu (v:=?_) ?_ ?_;rotate_left;(intro w_ hS_;have hk_:=hF w_ hS_;go_simp<;>with_reducible rfl);simp only [Act.put,sA,sB,sC]))
       refine Rh.Steps.forced (i:=17) (by kernel_rfl) ?_
       refine Rh.One.store (fun u=>XC3 n V.heap.size x a1 m1 d1 a2 m2 d2 a3 m3 d3 a4 m4 d4 a5 m5 d5 b9 u∧Below V.heap.size V u) (fun _ _ h k=>⟨h.1.stays k,nx h.2 k⟩) (by rfl) (by rfl) ?_ ?_
       ·intro w_ hS_ hG_
        obtain ⟨⟨⟨⟨⟨⟨hG0,f1⟩,f2⟩,f3⟩,f9⟩,f4⟩,f5⟩:=hG_
        have hb:=f9.inv.2
        have hp:plain 5 w_ b9=true:=plain_is hb rfl
        refine ⟨_,?_,below_setRow hS_ f9.inv.1 _,xc3_made hb f9.inv.1 HVn.out f1 f2 f3 f4 f5,below_setRow hS_ f9.inv.1 _⟩
        clear f1 f2 f3 f4 f5 f9 hG0 hb
        go_simp
       refine Rh.Steps.nil (by kernel_rfl) ?_
       intro w9_ _ hG9_
       go_wp2_with fail
       go_meet
       exact ⟨_,_,_,_,_,_,_,_,_,_,_,_,_,_,_,_,rfl,hG9_.1,hG9_.2⟩
     ·refine Rh.One.val (La.AtB 28 #[.slice none 0 0,.slice none 0 0,.slice none 0 0,.slice none 0 0,.slice none 0 0] V.heap.size) (fun _ _ _ h k=>La.AtB.stays h k) (by rfl) (by rfl) ?_ ?_
      ·intro w_ hS_ _
       refine ⟨_,_,?_,below1 w_ (.cells #[.slice none 0 0,.slice none 0 0,.slice none 0 0,.slice none 0 0,.slice none 0 0] 28),La.AtB.made _ _ hS_.size⟩
       go_simp
      intro v9 u9 hv9
      obtain ⟨b9,rfl,hb9,_⟩:=hv9
      simp only [Act.put,sA,sB,sC]
      repeat (first | (refine Rh.Steps.sk ?_;simp only [Act.put,sA,sB,sC]) | (refine Rh.Steps.pu (v:=?_) ?_ ?_;rotate_left;(intro w_ hS_;have hk_:=hF w_ hS_;go_simp<;>with_reducible rfl);simp only [Act.put,sA,sB,sC]))
      refine Rh.Steps.forced (i:=8) (by kernel_rfl) ?_
      refine Rh.One.call (NC3 n x.sess) (fun _ _ _ h k=>NC3.stays h k) (f:=?_) (args:=?_) (by rfl) (by rfl) ?_ ?_ ?_
      rotate_left 2
      ·intro w_ hS_ hG_;go_simp<;>first | with_reducible rfl | (constructor<;>with_reducible rfl)
      ·intro w_ hS_ hG_;(go_at_call 84;exact HC.out.2.2.1 w_ hS_)
      intro v3 u_ hv3
      simp only [Act.put,sA,sB,sC]
      obtain ⟨a3,m3,d3,rfl⟩:∃ a m d,v3=.slice a m d:=by obtain ⟨a,d,h⟩:=hv3.1.len;exact ⟨a,_,d,h⟩
      repeat (first | (refine Rh.Steps.sk ?_;simp only [Act.put,sA,sB,sC]) | (refine Rh.Steps.pu (v:=?_) ?_ ?_;rotate_left;(intro w_ hS_;have hk_:=hF w_ hS_;go_simp<;>with_reducible rfl);simp only [Act.put,sA,sB,sC]))
      refine Rh.Steps.forced (i:=11) (by kernel_rfl) ?_
      refine Rh.One.call (HL n x.inn) (fun _ _ _ h k=>La.hl_stays h k) (f:=?_) (args:=?_) (by rfl) (by rfl) ?_ ?_ ?_
      rotate_left 2
      ·intro w_ hS_ hG_;go_simp<;>first | with_reducible rfl | (constructor<;>with_reducible rfl)
      ·intro w_ hS_ hG_;(go_at_call 82;exact HC.out.2.2.2.1 w_ hS_)
      intro v4 u_ hv4
      simp only [Act.put,sA,sB,sC]
      obtain ⟨a4,m4,d4,rfl⟩:∃ a m d,v4=.slice a m d:=by obtain ⟨a,d,h⟩:=La.hl_slice hv4;exact ⟨a,_,d,h⟩
      repeat (first | (refine Rh.Steps.sk ?_;simp only [Act.put,sA,sB,sC]) | (refine Rh.Steps.pu (v:=?_) ?_ ?_;rotate_left;(intro w_ hS_;have hk_:=hF w_ hS_;go_simp<;>with_reducible rfl);simp only [Act.put,sA,sB,sC]))
      refine Rh.Steps.forced (i:=14) (by kernel_rfl) ?_
      refine Rh.One.call (HL n x.out) (fun _ _ _ h k=>La.hl_stays h k) (f:=?_) (args:=?_) (by rfl) (by rfl) ?_ ?_ ?_
      rotate_left 2
      ·intro w_ hS_ hG_;go_simp<;>first | with_reducible rfl | (constructor<;>with_reducible rfl)
      ·intro w_ hS_ hG_;(go_at_call 82;exact HC.out.2.2.2.2 w_ hS_)
      intro v5 u_ hv5
      simp only [Act.put,sA,sB,sC]
      obtain ⟨a5,m5,d5,rfl⟩:∃ a m d,v5=.slice a m d:=by obtain ⟨a,d,h⟩:=La.hl_slice hv5;exact ⟨a,_,d,h⟩
      repeat (first | (refine Rh.Steps.sk ?_;simp only [Act.put,sA,sB,sC]) | (refine Rh.Steps.pu (v:=?_) ?_ ?_;rotate_left;(intro w_ hS_;have hk_:=hF w_ hS_;go_simp<;>with_reducible rfl);simp only [Act.put,sA,sB,sC]))
      repeat (first | (refine Rh.Steps.sk ?_;simp only [Act.put,sA,sB,sC]) | (refine Rh.Steps.pu (v:=?_) ?_ ?_;rotate_left;(intro w_ hS_;have hk_:=hF w_ hS_;go_simp<;>with_reducible rfl);simp only [Act.put,sA,sB,sC]))
      refine Rh.Steps.forced (i:=17) (by kernel_rfl) ?_
      refine Rh.One.store (fun u=>XC3 n V.heap.size x a1 m1 d1 a2 m2 d2 a3 m3 d3 a4 m4 d4 a5 m5 d5 b9 u∧Below V.heap.size V u) (fun _ _ h k=>⟨h.1.stays k,nx h.2 k⟩) (by rfl) (by rfl) ?_ ?_
      ·intro w_ hS_ hG_
       obtain ⟨⟨⟨⟨⟨⟨hG0,f1⟩,f2⟩,f9⟩,f3⟩,f4⟩,f5⟩:=hG_
       have hb:=f9.inv.2
       have hp:plain 5 w_ b9=true:=plain_is hb rfl
       refine ⟨_,?_,below_setRow hS_ f9.inv.1 _,xc3_made hb f9.inv.1 HVn.out f1 f2 f3 f4 f5,below_setRow hS_ f9.inv.1 _⟩
       clear f1 f2 f3 f4 f5 f9 hG0 hb
       go_simp
      refine Rh.Steps.nil (by kernel_rfl) ?_
      intro w9_ _ hG9_
      go_wp2_with fail
      go_meet
      exact ⟨_,_,_,_,_,_,_,_,_,_,_,_,_,_,_,_,rfl,hG9_.1,hG9_.2⟩
    ·refine Rh.One.val (La.AtB 28 #[.slice none 0 0,.slice none 0 0,.slice none 0 0,.slice none 0 0,.slice none 0 0] V.heap.size) (fun _ _ _ h k=>La.AtB.stays h k) (by rfl) (by rfl) ?_ ?_
     ·intro w_ hS_ _
      refine ⟨_,_,?_,below1 w_ (.cells #[.slice none 0 0,.slice none 0 0,.slice none 0 0,.slice none 0 0,.slice none 0 0] 28),La.AtB.made _ _ hS_.size⟩
      go_simp
     intro v9 u9 hv9
     obtain ⟨b9,rfl,hb9,_⟩:=hv9
     simp only [Act.put,sA,sB,sC]
     repeat (first | (refine Rh.Steps.sk ?_;simp only [Act.put,sA,sB,sC]) | (refine Rh.Steps.pu (v:=?_) ?_ ?_;rotate_left;(intro w_ hS_;have hk_:=hF w_ hS_;go_simp<;>with_reducible rfl);simp only [Act.put,sA,sB,sC]))
     refine Rh.Steps.forced (i:=5) (by kernel_rfl) ?_
     refine Rh.One.call (LN3 n V.heap.size x.lanes) (fun _ _ _ h k=>LN3.stays h k) (f:=?_) (args:=?_) (by rfl) (by rfl) ?_ ?_ ?_
     rotate_left 2
     ·intro w_ hS_ hG_;go_simp<;>first | with_reducible rfl | (constructor<;>with_reducible rfl)
     ·intro w_ hS_ hG_;(go_at_call 83;exact HC.out.2.1 w_ hS_)
     intro v2 u_ hv2
     simp only [Act.put,sA,sB,sC]
     obtain ⟨a2,m2,d2,rfl⟩:∃ a m d,v2=.slice a m d:=by obtain ⟨a,d,h,_⟩:=hv2;exact ⟨a,_,d,h⟩
     repeat (first | (refine Rh.Steps.sk ?_;simp only [Act.put,sA,sB,sC]) | (refine Rh.Steps.pu (v:=?_) ?_ ?_;rotate_left;(intro w_ hS_;have hk_:=hF w_ hS_;go_simp<;>with_reducible rfl);simp only [Act.put,sA,sB,sC]))
     refine Rh.Steps.forced (i:=8) (by kernel_rfl) ?_
     refine Rh.One.call (NC3 n x.sess) (fun _ _ _ h k=>NC3.stays h k) (f:=?_) (args:=?_) (by rfl) (by rfl) ?_ ?_ ?_
     rotate_left 2
     ·intro w_ hS_ hG_;go_simp<;>first | with_reducible rfl | (constructor<;>with_reducible rfl)
     ·intro w_ hS_ hG_;(go_at_call 84;exact HC.out.2.2.1 w_ hS_)
     intro v3 u_ hv3
     simp only [Act.put,sA,sB,sC]
     obtain ⟨a3,m3,d3,rfl⟩:∃ a m d,v3=.slice a m d:=by obtain ⟨a,d,h⟩:=hv3.1.len;exact ⟨a,_,d,h⟩
     repeat (first | (refine Rh.Steps.sk ?_;simp only [Act.put,sA,sB,sC]) | (refine Rh.Steps.pu (v:=?_) ?_ ?_;rotate_left;(intro w_ hS_;have hk_:=hF w_ hS_;go_simp<;>with_reducible rfl);simp only [Act.put,sA,sB,sC]))
     refine Rh.Steps.forced (i:=11) (by kernel_rfl) ?_
     refine Rh.One.call (HL n x.inn) (fun _ _ _ h k=>La.hl_stays h k) (f:=?_) (args:=?_) (by rfl) (by rfl) ?_ ?_ ?_
     rotate_left 2
     ·intro w_ hS_ hG_;go_simp<;>first | with_reducible rfl | (constructor<;>with_reducible rfl)
     ·intro w_ hS_ hG_;(go_at_call 82;exact HC.out.2.2.2.1 w_ hS_)
     intro v4 u_ hv4
     simp only [Act.put,sA,sB,sC]
     obtain ⟨a4,m4,d4,rfl⟩:∃ a m d,v4=.slice a m d:=by obtain ⟨a,d,h⟩:=La.hl_slice hv4;exact ⟨a,_,d,h⟩
     repeat (first | (refine Rh.Steps.sk ?_;simp only [Act.put,sA,sB,sC]) | (refine Rh.Steps.pu (v:=?_) ?_ ?_;rotate_left;(intro w_ hS_;have hk_:=hF w_ hS_;go_simp<;>with_reducible rfl);simp only [Act.put,sA,sB,sC]))
     refine Rh.Steps.forced (i:=14) (by kernel_rfl) ?_
     refine Rh.One.call (HL n x.out) (fun _ _ _ h k=>La.hl_stays h k) (f:=?_) (args:=?_) (by rfl) (by rfl) ?_ ?_ ?_
     rotate_left 2
     ·intro w_ hS_ hG_;go_simp<;>first | with_reducible rfl | (constructor<;>with_reducible rfl)
     ·intro w_ hS_ hG_;(go_at_call 82;exact HC.out.2.2.2.2 w_ hS_)
     intro v5 u_ hv5
     simp only [Act.put,sA,sB,sC]
     obtain ⟨a5,m5,d5,rfl⟩:∃ a m d,v5=.slice a m d:=by obtain ⟨a,d,h⟩:=La.hl_slice hv5;exact ⟨a,_,d,h⟩
     repeat (first | (refine Rh.Steps.sk ?_;simp only [Act.put,sA,sB,sC]) | (refine Rh.Steps.pu (v:=?_) ?_ ?_;rotate_left;(intro w_ hS_;have hk_:=hF w_ hS_;go_simp<;>with_reducible rfl);simp only [Act.put,sA,sB,sC]))
     repeat (first | (refine Rh.Steps.sk ?_;simp only [Act.put,sA,sB,sC]) | (refine Rh.Steps.pu (v:=?_) ?_ ?_;rotate_left;(intro w_ hS_;have hk_:=hF w_ hS_;go_simp<;>with_reducible rfl);simp only [Act.put,sA,sB,sC]))
     refine Rh.Steps.forced (i:=17) (by kernel_rfl) ?_
     refine Rh.One.store (fun u=>XC3 n V.heap.size x a1 m1 d1 a2 m2 d2 a3 m3 d3 a4 m4 d4 a5 m5 d5 b9 u∧Below V.heap.size V u) (fun _ _ h k=>⟨h.1.stays k,nx h.2 k⟩) (by rfl) (by rfl) ?_ ?_
     ·intro w_ hS_ hG_
      obtain ⟨⟨⟨⟨⟨⟨hG0,f1⟩,f9⟩,f2⟩,f3⟩,f4⟩,f5⟩:=hG_
      have hb:=f9.inv.2
      have hp:plain 5 w_ b9=true:=plain_is hb rfl
      refine ⟨_,?_,below_setRow hS_ f9.inv.1 _,xc3_made hb f9.inv.1 HVn.out f1 f2 f3 f4 f5,below_setRow hS_ f9.inv.1 _⟩
      clear f1 f2 f3 f4 f5 f9 hG0 hb
      go_simp
     refine Rh.Steps.nil (by kernel_rfl) ?_
     intro w9_ _ hG9_
     go_wp2_with fail
     go_meet
     exact ⟨_,_,_,_,_,_,_,_,_,_,_,_,_,_,_,_,rfl,hG9_.1,hG9_.2⟩
   ·refine Rh.One.val (La.AtB 28 #[.slice none 0 0,.slice none 0 0,.slice none 0 0,.slice none 0 0,.slice none 0 0] V.heap.size) (fun _ _ _ h k=>La.AtB.stays h k) (by rfl) (by rfl) ?_ ?_
    ·intro w_ hS_ _
     refine ⟨_,_,?_,below1 w_ (.cells #[.slice none 0 0,.slice none 0 0,.slice none 0 0,.slice none 0 0,.slice none 0 0] 28),La.AtB.made _ _ hS_.size⟩
     go_simp
    intro v9 u9 hv9
    obtain ⟨b9,rfl,hb9,_⟩:=hv9
    simp only [Act.put,sA,sB,sC]
    repeat (first | (refine Rh.Steps.sk ?_;simp only [Act.put,sA,sB,sC]) | (refine Rh.Steps.pu (v:=?_) ?_ ?_;rotate_left;(intro w_ hS_;have hk_:=hF w_ hS_;go_simp<;>with_reducible rfl);simp only [Act.put,sA,sB,sC]))
    refine Rh.Steps.forced (i:=2) (by kernel_rfl) ?_
    refine Rh.One.call (HL n x.free) (fun _ _ _ h k=>La.hl_stays h k) (f:=?_) (args:=?_) (by rfl) (by rfl) ?_ ?_ ?_
    rotate_left 2
    ·intro w_ hS_ hG_;go_simp<;>first | with_reducible rfl | (constructor<;>with_reducible rfl)
    ·intro w_ hS_ hG_;(go_at_call 82;exact HC.out.1 w_ hS_)
    intro v1 u_ hv1
    simp only [Act.put,sA,sB,sC]
    obtain ⟨a1,m1,d1,rfl⟩:∃ a m d,v1=.slice a m d:=by obtain ⟨a,d,h⟩:=La.hl_slice hv1;exact ⟨a,_,d,h⟩
    repeat (first | (refine Rh.Steps.sk ?_;simp only [Act.put,sA,sB,sC]) | (refine Rh.Steps.pu (v:=?_) ?_ ?_;rotate_left;(intro w_ hS_;have hk_:=hF w_ hS_;go_simp<;>with_reducible rfl);simp only [Act.put,sA,sB,sC]))
    refine Rh.Steps.forced (i:=5) (by kernel_rfl) ?_
    refine Rh.One.call (LN3 n V.heap.size x.lanes) (fun _ _ _ h k=>LN3.stays h k) (f:=?_) (args:=?_) (by rfl) (by rfl) ?_ ?_ ?_
    rotate_left 2
    ·intro w_ hS_ hG_;go_simp<;>first | with_reducible rfl | (constructor<;>with_reducible rfl)
    ·intro w_ hS_ hG_;(go_at_call 83;exact HC.out.2.1 w_ hS_)
    intro v2 u_ hv2
    simp only [Act.put,sA,sB,sC]
    obtain ⟨a2,m2,d2,rfl⟩:∃ a m d,v2=.slice a m d:=by obtain ⟨a,d,h,_⟩:=hv2;exact ⟨a,_,d,h⟩
    repeat (first | (refine Rh.Steps.sk ?_;simp only [Act.put,sA,sB,sC]) | (refine Rh.Steps.pu (v:=?_) ?_ ?_;rotate_left;(intro w_ hS_;have hk_:=hF w_ hS_;go_simp<;>with_reducible rfl);simp only [Act.put,sA,sB,sC]))
    refine Rh.Steps.forced (i:=8) (by kernel_rfl) ?_
    refine Rh.One.call (NC3 n x.sess) (fun _ _ _ h k=>NC3.stays h k) (f:=?_) (args:=?_) (by rfl) (by rfl) ?_ ?_ ?_
    rotate_left 2
    ·intro w_ hS_ hG_;go_simp<;>first | with_reducible rfl | (constructor<;>with_reducible rfl)
    ·intro w_ hS_ hG_;(go_at_call 84;exact HC.out.2.2.1 w_ hS_)
    intro v3 u_ hv3
    simp only [Act.put,sA,sB,sC]
    obtain ⟨a3,m3,d3,rfl⟩:∃ a m d,v3=.slice a m d:=by obtain ⟨a,d,h⟩:=hv3.1.len;exact ⟨a,_,d,h⟩
    repeat (first | (refine Rh.Steps.sk ?_;simp only [Act.put,sA,sB,sC]) | (refine Rh.Steps.pu (v:=?_) ?_ ?_;rotate_left;(intro w_ hS_;have hk_:=hF w_ hS_;go_simp<;>with_reducible rfl);simp only [Act.put,sA,sB,sC]))
    refine Rh.Steps.forced (i:=11) (by kernel_rfl) ?_
    refine Rh.One.call (HL n x.inn) (fun _ _ _ h k=>La.hl_stays h k) (f:=?_) (args:=?_) (by rfl) (by rfl) ?_ ?_ ?_
    rotate_left 2
    ·intro w_ hS_ hG_;go_simp<;>first | with_reducible rfl | (constructor<;>with_reducible rfl)
    ·intro w_ hS_ hG_;(go_at_call 82;exact HC.out.2.2.2.1 w_ hS_)
    intro v4 u_ hv4
    simp only [Act.put,sA,sB,sC]
    obtain ⟨a4,m4,d4,rfl⟩:∃ a m d,v4=.slice a m d:=by obtain ⟨a,d,h⟩:=La.hl_slice hv4;exact ⟨a,_,d,h⟩
    repeat (first | (refine Rh.Steps.sk ?_;simp only [Act.put,sA,sB,sC]) | (refine Rh.Steps.pu (v:=?_) ?_ ?_;rotate_left;(intro w_ hS_;have hk_:=hF w_ hS_;go_simp<;>with_reducible rfl);simp only [Act.put,sA,sB,sC]))
    refine Rh.Steps.forced (i:=14) (by kernel_rfl) ?_
    refine Rh.One.call (HL n x.out) (fun _ _ _ h k=>La.hl_stays h k) (f:=?_) (args:=?_) (by rfl) (by rfl) ?_ ?_ ?_
    rotate_left 2
    ·intro w_ hS_ hG_;go_simp<;>first | with_reducible rfl | (constructor<;>with_reducible rfl)
    ·intro w_ hS_ hG_;(go_at_call 82;exact HC.out.2.2.2.2 w_ hS_)
    intro v5 u_ hv5
    simp only [Act.put,sA,sB,sC]
    obtain ⟨a5,m5,d5,rfl⟩:∃ a m d,v5=.slice a m d:=by obtain ⟨a,d,h⟩:=La.hl_slice hv5;exact ⟨a,_,d,h⟩
    repeat (first | (refine Rh.Steps.sk ?_;simp only [Act.put,sA,sB,sC]) | (refine Rh.Steps.pu (v:=?_) ?_ ?_;rotate_left;(intro w_ hS_;have hk_:=hF w_ hS_;go_simp<;>with_reducible rfl);simp only [Act.put,sA,sB,sC]))
    repeat (first | (refine Rh.Steps.sk ?_;simp only [Act.put,sA,sB,sC]) | (refine Rh.Steps.pu (v:=?_) ?_ ?_;rotate_left;(intro w_ hS_;have hk_:=hF w_ hS_;go_simp<;>with_reducible rfl);simp only [Act.put,sA,sB,sC]))
    refine Rh.Steps.forced (i:=17) (by kernel_rfl) ?_
    refine Rh.One.store (fun u=>XC3 n V.heap.size x a1 m1 d1 a2 m2 d2 a3 m3 d3 a4 m4 d4 a5 m5 d5 b9 u∧Below V.heap.size V u) (fun _ _ h k=>⟨h.1.stays k,nx h.2 k⟩) (by rfl) (by rfl) ?_ ?_
    ·intro w_ hS_ hG_
     obtain ⟨⟨⟨⟨⟨⟨hG0,f9⟩,f1⟩,f2⟩,f3⟩,f4⟩,f5⟩:=hG_
     have hb:=f9.inv.2
     have hp:plain 5 w_ b9=true:=plain_is hb rfl
     refine ⟨_,?_,below_setRow hS_ f9.inv.1 _,xc3_made hb f9.inv.1 HVn.out f1 f2 f3 f4 f5,below_setRow hS_ f9.inv.1 _⟩
     clear f1 f2 f3 f4 f5 f9 hG0 hb
     go_simp
    refine Rh.Steps.nil (by kernel_rfl) ?_
    intro w9_ _ hG9_
    go_wp2_with fail
    go_meet
    exact ⟨_,_,_,_,_,_,_,_,_,_,_,_,_,_,_,_,rfl,hG9_.1,hG9_.2⟩
 case rest =>
  obtain ⟨a1,m1,d1,a2,m2,d2,a3,m3,d3,a4,m4,d4,a5,m5,d5,b9,rfl,hc9,hbc⟩:=hcut
  have HC9:=lH hc9
  have hcx:=HX.out.stays hbc
  obtain ⟨c0,c1,c2,c3,c4⟩:=hcx.cells
  have hsz:w.heap.size<wc.heap.size:=by have:=hbc.size;have:=HZ.out;omega
  clear hc9 hcx hF
  go_wp2
  clear c0 c1 c2 c3 c4
  go_loopw [4,25] (fun _ i wr=>∃ k:Nat,k≤n2∧i=.int .i64 k∧Below V.heap.size V wr∧XC3 n V.heap.size x a1 m1 d1 a2 m2 d2 a3 m3 d3 a4 m4 d4 a5 m5 d5 b9 wr) (fun _ i _=>n2 - (intOf i).toNat)
  case atStart=>exact ⟨0,Nat.zero_le _,rfl,hbc,HC9.out⟩
  case round =>
   obtain ⟨k,hk,rfl,hb,hx9⟩:=hrel
   have HX9:=lH hx9
   clear hx9
   by_cases hlt:k<n2
   ·have hlt2:(k:Int)<n2:=by omega
    have hkl:k<x.lanes.length:=by rw [HN2.out];exact hlt
    have hcx:=HX.out.stays hb
    rcases hcx.d.lanes with ⟨pa,pc,e,⟨e0,_⟩ | ⟨ob,off,e0,hat⟩⟩
    ·rw [e0] at hkl;cases hkl
    simp only [Value.slice.injEq] at e
    obtain ⟨rfl,-,rfl⟩:=e
    subst e0
    obtain ⟨j1,w1,x1,j2,w2,x2,j3,w3,x3,hln,r0,r1,r2,r3,r4,r5⟩:=atN hat k hkl
    have hob:=hat.1
    obtain ⟨g,e2,hg⟩:∃ g,a2=some ⟨g,0,none⟩∧m2=n2:=by
     obtain ⟨a,d,e,hl,-⟩:=HX9.out.own
     simp only [Value.slice.injEq] at e
     obtain ⟨rfl,rfl,rfl⟩:=e
     obtain ⟨g,e,_⟩:=hl.at hkl
     exact ⟨g,e,HN2.out⟩
    subst e2 hg
    have hsl:=HS.out.lane _ (List.getElem_mem hkl)
    obtain ⟨ln,hlnq⟩:∃ ln,x.lanes[k]=ln:=⟨_,rfl⟩
    have HLn:=lH hlnq
    rw [hlnq] at hln r0 r1 r4 hsl
    obtain ⟨b0,b1,b2,hnx⟩:∃ b0 b1 b2,ln.1=b0∧ln.2.1=b1∧ln.2.2.1.2.2=b2:=⟨_,_,_,rfl,rfl,rfl⟩
    rw [hnx.1] at r0
    rw [hnx.2.1] at r1
    rw [hnx.2.2] at r4
    have HLL:=lH (show LL (Bs.of n) ln.2.2.1.1 (.slice j1 w1 x1) wr∧LL (Bs.of n) ln.2.2.1.2.1 (.slice j2 w2 x2) wr∧HL n ln.2.2.2 (.slice j3 w3 x3) wr from by
     obtain ⟨x',y',o',e,t1,t2,t3⟩:=hln
     have e:=congrArg Value.cells e
     simp only [Value.cells,cN,Array.mk.injEq,List.cons.injEq,and_true,true_and] at e
     obtain ⟨rfl,rfl,rfl⟩:=e
     exact ⟨t1,t2,t3⟩)
    have HSL:=lH hsl
    obtain ⟨U,hU⟩:∃ U,U=wr.alloc (.cells #[.int .i64 b0,.int .i64 b1,.slice j1 w1 x1,.slice j2 w2 x2,.int .i64 b2,.slice j3 w3 x3] 59):=⟨_,rfl⟩
    have hbU:Below wr.heap.size wr U:=hU ▸ below1 wr _
    have hbx:U.heap[wr.heap.size]?=some (.cells #[.int .i64 b0,.int .i64 b1,.slice j1 w1 x1,.slice j2 w2 x2,.int .i64 b2,.slice j3 w3 x3] 59 (0,0)):=by rw [hU];exact heap_alloc_new _ _
    have hb9x:=HX9.out.stays hbU
    obtain ⟨cur,hgt⟩:∃ cur,wr.heap[g]?=some (.cells cur 59 (0,0)):=by
     obtain ⟨a,d,e,hl,-⟩:=HX9.out.own
     obtain ⟨g',e2,hg⟩:=hl.at hkl
     simp only [Value.slice.injEq] at e
     obtain ⟨e3,_,_⟩:=e
     rw [e2] at e3
     simp only [Option.some.injEq,Addr.mk.injEq] at e3
     obtain ⟨rfl,_⟩:=e3
     exact hg.ty
    have hgl:g<wr.heap.size:=lt_of_some hgt
    have hgb:b9≠g:=fun e=>by have:=HX9.out.box.bk;rw [e,hgt] at this;injection this with this;injection this with _ e2;exact absurd e2 (by decide)
    have hF:∀ u,U.grownBy u (some g)→u.cell? ⟨b9,1,none⟩=some (.slice (some ⟨g,0,none⟩) m2 d2)∧u.cell? ⟨wr.heap.size,2,none⟩=some (.slice j1 w1 x1)∧u.cell? ⟨wr.heap.size,3,none⟩=some (.slice j2 w2 x2)∧u.cell? ⟨wr.heap.size,5,none⟩=some (.slice j3 w3 x3):=fun u hu=>by
     have e1:=grown_block hu hb9x.box.lt (fun k e=>by injection e with e;omega)
     have e2:=grown_block hu (lt_of_some hbx) (fun k e=>by injection e with e;omega)
     exact ⟨cell_is (e1.trans hb9x.box.bk),cell_is (e2.trans hbx),cell_is (e2.trans hbx),cell_is (e2.trans hbx)⟩
    have HX9U:=lH hb9x
    have HVU:=lH (nx hb hbU)
    have HnU:=lH (show ∀ u,Below U.heap.size U u→n≤u.heap.size from fun u hu=>Nat.le_trans HVn.out (nx (nx hb hbU) hu).size)
    have HLLU:=lH (show ∀ u,Below U.heap.size U u→LL (Bs.of n) ln.2.2.1.1 (.slice j1 w1 x1) u∧LL (Bs.of n) ln.2.2.1.2.1 (.slice j2 w2 x2) u from fun u hu=>⟨Is.stays eL 106 HLL.out.1 (nx hbU hu),Is.stays eL 106 HLL.out.2.1 (nx hbU hu)⟩)
    have HgU:=lH hgl
    have HU:=lH hU
    have HbU:=lH hbU
    clear hU hlnq hln hsl hcx hb9x hbx hbU hgt hgb hnx hat
    go_upto_region 5 with fail
    rw [← HU.out]
    refine Rh.rg (fun u=>U.grownBy u (some g)) (fun u=>Below U.heap.size U u) (grown_stays U _) (fun _ _ h k=>nx h k) (grown_drew U _) ((Below.refl _ _).drew) [0,1,2,3,4,5,6,7,8,10,11,12,9,13,14,15,16,17,18,19,20,21] ?_
    repeat (first | (refine Rh.Steps.sk ?_;simp only [Act.put,sA,sB,sC]) | (refine Rh.Steps.pu (v:=?_) ?_ ?_;rotate_left;(intro w_ hS_;have hk_:=hF w_ hS_;go_simp<;>with_reducible rfl);simp only [Act.put,sA,sB,sC]))
    refine Rh.Steps.forced (i:=9) (by kernel_rfl) ?_
    refine Rh.One.call (LL (Bs.of n) ln.2.2.1.1) (fun _ _ _ h k=>Is.stays eL 106 h k) (f:=?_) (args:=?_) (by rfl) (by rfl) ?_ ?_ ?_
    rotate_left 2
    ·intro w_ hS_ hG_;go_simp<;>first | with_reducible rfl | (constructor<;>with_reducible rfl)
    ·intro w_ hS_ hG_;(go_at_call 85;exact clonedLevels_any n _ _ w_ (HLLU.out w_ hG_).1 (HnU.out w_ hG_) (by have:=HSL.out.m1;omega) (by have:=HSL.out.m2;omega))
    intro v1 u_ hv1
    simp only [Act.put,sA,sB,sC]
    obtain ⟨y1,z1,rfl⟩:=hv1.len
    repeat (first | (refine Rh.Steps.sk ?_;simp only [Act.put,sA,sB,sC]) | (refine Rh.Steps.pu (v:=?_) ?_ ?_;rotate_left;(intro w_ hS_;have hk_:=hF w_ hS_;go_simp<;>with_reducible rfl);simp only [Act.put,sA,sB,sC]))
    refine Rh.Steps.forced (i:=13) (by kernel_rfl) ?_
    refine Rh.One.call (LL (Bs.of n) ln.2.2.1.2.1) (fun _ _ _ h k=>Is.stays eL 106 h k) (f:=?_) (args:=?_) (by rfl) (by rfl) ?_ ?_ ?_
    rotate_left 2
    ·intro w_ hS_ hG_;go_simp<;>first | with_reducible rfl | (constructor<;>with_reducible rfl)
    ·intro w_ hS_ hG_;(go_at_call 85;exact clonedLevels_any n _ _ w_ (HLLU.out w_ hG_.1).2 (HnU.out w_ hG_.1) (by have:=HSL.out.m3;omega) (by have:=HSL.out.m4;omega))
    intro v2 u_ hv2
    simp only [Act.put,sA,sB,sC]
    obtain ⟨y2,z2,rfl⟩:=hv2.len
    repeat (first | (refine Rh.Steps.sk ?_;simp only [Act.put,sA,sB,sC]) | (refine Rh.Steps.pu (v:=?_) ?_ ?_;rotate_left;(intro w_ hS_;have hk_:=hF w_ hS_;go_simp<;>with_reducible rfl);simp only [Act.put,sA,sB,sC]))
    refine Rh.Steps.forced (i:=17) (by kernel_rfl) ?_
    refine Rh.One.store (fun u=>(Below V.heap.size V u∧XC3 n V.heap.size x a1 m1 d1 (some ⟨g,0,none⟩) m2 d2 a3 m3 d3 a4 m4 d4 a5 m5 d5 b9 u)∧LL (Bs.of n) ln.2.2.1.2.1 (.slice y2 ln.2.2.1.2.1.length z2) u∧HL n ln.2.2.2 (.slice j3 w3 x3) u) (fun _ _ h k=>⟨⟨nx h.1.1 k,h.1.2.stays k⟩,Is.stays eL 106 h.2.1 k,La.hl_stays h.2.2 k⟩) (by rfl) (by rfl) ?_ ?_
    ·intro w_ hS_ hG_
     obtain ⟨⟨t0,t1⟩,t2⟩:=hG_
     obtain ⟨⟨z,hz⟩,hz2,hz3,hz4,hz5⟩:=XC.put (HX9U.out.stays t0) hkl (j:=2) (by decide) (y:=.slice y1 ln.2.2.1.1.length z1) (fun cs hc=>by obtain ⟨p,q,o,rfl,_,h2,h3⟩:=eN_cells hc;exact eN_mk (by rw [HLn.out];exact t1) h2 h3)
     refine ⟨w_.setCell ⟨g,k*6+2,none⟩ (.slice y1 ln.2.2.1.1.length z1),?_,grown_trans hS_ (Ro.setCell_grown _ _ _ _),⟨(nx HVU.out t0).trans (low_setCell _ _ hz4),hz3⟩,Is.keep _ _ t2 (hz5 _ (by decide)),La.hl_keep (La.hl_stays HLL.out.2.2 (nx HbU.out t0)) (hz5 _ (by decide))⟩
     clear t0 t1 t2 hz3 hz5
     go_simp
    repeat (first | (refine Rh.Steps.sk ?_;simp only [Act.put,sA,sB,sC]) | (refine Rh.Steps.pu (v:=?_) ?_ ?_;rotate_left;(intro w_ hS_;have hk_:=hF w_ hS_;go_simp<;>with_reducible rfl);simp only [Act.put,sA,sB,sC]))
    refine Rh.Steps.forced (i:=21) (by kernel_rfl) ?_
    refine Rh.One.store (fun u=>(Below V.heap.size V u∧XC3 n V.heap.size x a1 m1 d1 (some ⟨g,0,none⟩) m2 d2 a3 m3 d3 a4 m4 d4 a5 m5 d5 b9 u)∧HL n ln.2.2.2 (.slice j3 w3 x3) u) (fun _ _ h k=>⟨⟨nx h.1.1 k,h.1.2.stays k⟩,La.hl_stays h.2 k⟩) (by rfl) (by rfl) ?_ ?_
    ·intro w_ hS_ hG_
     obtain ⟨⟨t0,t1⟩,t2,t3⟩:=hG_
     obtain ⟨⟨z,hz⟩,hz2,hz3,hz4,hz5⟩:=XC.put t1 hkl (j:=3) (by decide) (y:=.slice y2 ln.2.2.1.2.1.length z2) (fun cs hc=>by obtain ⟨p,q,o,rfl,h1,_,h3⟩:=eN_cells hc;exact eN_mk h1 (by rw [HLn.out];exact t2) h3)
     refine ⟨w_.setCell ⟨g,k*6+3,none⟩ (.slice y2 ln.2.2.1.2.1.length z2),?_,grown_trans hS_ (Ro.setCell_grown _ _ _ _),⟨t0.trans (low_setCell _ _ hz4),hz3⟩,La.hl_keep t3 (hz5 _ (by decide))⟩
     clear t0 t1 t2 t3 hz3 hz5
     go_simp
    refine Rh.Steps.nil (by kernel_rfl) ?_
    intro w5 hS5 hG5
    have HG5:=lH hG5
    clear hG5
    go_wp2_with fail
    refine Rh.rg (fun u=>U.grownBy u (some g)) (fun u=>Below w5.heap.size w5 u) (grown_stays U _) (fun _ _ h k=>nx h k) (grown_trans hS5 (grown_drew w5 _)) ((Below.refl _ _).drew) [0,1,2,3,4,5,6,7,8] ?_
    repeat (first | (refine Rh.Steps.sk ?_;simp only [Act.put,sA,sB,sC]) | (refine Rh.Steps.pu (v:=?_) ?_ ?_;rotate_left;(intro w_ hS_;have hk_:=hF w_ hS_;go_simp<;>with_reducible rfl);simp only [Act.put,sA,sB,sC]))
    refine Rh.Steps.forced (i:=5) (by kernel_rfl) ?_
    refine Rh.One.call (HL n ln.2.2.2) (fun _ _ _ h k=>La.hl_stays h k) (f:=?_) (args:=?_) (by rfl) (by rfl) ?_ ?_ ?_
    rotate_left 2
    ·intro w_ hS_ hG_;go_simp<;>first | with_reducible rfl | (constructor<;>with_reducible rfl)
    ·intro w_ hS_ hG_;(go_at_call 82;refine (La.cloneH_is (La.hl_stays HG5.out.2 hG_) (Nat.le_trans HVn.out (nx HG5.out.1.1 hG_).size) (by have:=HSL.out.m5;omega)).mono ?_;rintro e w' ⟨a,m,c,rfl,hb,hl⟩;exact ⟨_,rfl,hb,hl⟩)
    intro v3 u_ hv3
    simp only [Act.put,sA,sB,sC]
    obtain ⟨y3,z3,rfl⟩:=La.hl_slice hv3
    repeat (first | (refine Rh.Steps.sk ?_;simp only [Act.put,sA,sB,sC]) | (refine Rh.Steps.pu (v:=?_) ?_ ?_;rotate_left;(intro w_ hS_;have hk_:=hF w_ hS_;go_simp<;>with_reducible rfl);simp only [Act.put,sA,sB,sC]))
    refine Rh.Steps.forced (i:=8) (by kernel_rfl) ?_
    refine Rh.One.store (fun u=>Below V.heap.size V u∧XC3 n V.heap.size x a1 m1 d1 (some ⟨g,0,none⟩) m2 d2 a3 m3 d3 a4 m4 d4 a5 m5 d5 b9 u) (fun _ _ h k=>⟨nx h.1 k,h.2.stays k⟩) (by rfl) (by rfl) ?_ ?_
    ·intro w_ hS_ hG_
     obtain ⟨t0,t1⟩:=hG_
     obtain ⟨⟨z,hz⟩,hz2,hz3,hz4,hz5⟩:=XC.put (HG5.out.1.2.stays t0) hkl (j:=5) (by decide) (y:=.slice y3 ln.2.2.2.length z3) (fun cs hc=>by obtain ⟨p,q,o,rfl,h1,h2,_⟩:=eN_cells hc;exact eN_mk h1 h2 (by rw [HLn.out];exact hl_is t1))
     refine ⟨w_.setCell ⟨g,k*6+5,none⟩ (.slice y3 ln.2.2.2.length z3),?_,grown_trans hS_ (Ro.setCell_grown _ _ _ _),(nx HG5.out.1.1 t0).trans (low_setCell _ _ hz4),hz3⟩
     clear t0 t1 hz3 hz5
     go_simp
    refine Rh.Steps.nil (by kernel_rfl) ?_
    intro w6 _ hG6
    have HG6:=lH hG6
    clear hG6 hF
    go_wp2
    go_roundw
    case rel=>exact ⟨k+1,by omega,by go_num,HG6.out.1,HG6.out.2⟩
    case measure=>simp [intOf];omega
   ·obtain rfl:k=n2:=by omega
    have hx9:=HX9.out
    have r9:=hx9.box.row
    have hb1:=(hb.block _ (lt_of_some HB1.out)).trans HB1.out
    have p9:plain 5 wr (w.heap.size+1)=true:=plain_is hb1 rfl
    have hsv:w.heap.size≤V.heap.size:=by have:=HZ.out;omega
    obtain ⟨Z,hZ⟩:∃ Z,Z=wr.setRow (w.heap.size+1) #[.slice a1 m1 d1,.slice a2 m2 d2,.slice a3 m3 d3,.slice a4 m4 d4,.slice a5 m5 d5]:=⟨_,rfl⟩
    have kp:∀ ts,28 ∉ ts→Da.Keeps (Bs.of n) ts wr Z:=fun ts ht=>by rw [hZ];exact Bk.keeps_setRow (B:=Bs.of n) _ hb1 ht (Nat.le_succ_of_le hn)
    have HF:=lH (show Below w.heap.size w Z∧XD n x (.slice a1 m1 d1) (.slice a2 m2 d2) (.slice a3 m3 d3) (.slice a4 m4 d4) (.slice a5 m5 d5) Z∧LN3 n w.heap.size x.lanes (.slice a2 m2 d2) Z∧capOk (.slice a3 m3 d3)∧row Z (w.heap.size+1)=#[.slice a1 m1 d1,.slice a2 m2 d2,.slice a3 m3 d3,.slice a4 m4 d4,.slice a5 m5 d5] from
     ⟨by rw [hZ];exact below_setRow (HBV.out.trans (hb.mono hsv)) (Nat.le_succ _) _,hx9.box.d.keep (kp _ (by decide)),(by
      obtain ⟨a,d,e,h,c⟩:=hx9.own
      refine ⟨a,d,e,h.imp id fun ⟨g,e,h⟩=>⟨g,e,Lies.keep _ _ h.ls (kp _ (by decide)),?_,Nat.le_trans hsv h.bo,h.lo⟩,c⟩
      obtain ⟨cur,hc⟩:=h.ty
      exact ⟨cur,(kp [59] (by decide)).block g _ hc (.inr ⟨_,_,_,rfl,by simp,fun h=>h⟩)⟩),hx9.cap,by rw [hZ];exact row_set _ p9⟩)
    have HZ2:=lH hZ
    clear hZ hx9 hb1 kp
    go_wp2
    rw [← HZ2.out]
    refine bodyPost_ret (v:=.agg #[.slice a1 m1 d1,.slice a2 m2 d2,.slice a3 m3 d3,.slice a4 m4 d4,.slice a5 m5 d5]) (ret_X1 Tryz.results43 _ _ rfl ?c1) rfl ⟨_,rfl,HF.out.1,_,_,_,_,_,rfl,HF.out.2.1,HF.out.2.2.1,HF.out.2.2.2.1⟩
    case c1=>exact HF.out.2.2.2.2
end Go.Proofs.YtjhocpcpkemcaaaGreat.Ex
