/- Slices of structs, of k cells an element, as lists: as they came in, as a call hands them on, as a call's own. Of no program. -/
import Derived.Test.YtjhocpcpkemcaaaGreatQeZZ
import Derived.Test.YtjhocpcpkemcaaaGreatQeAI
import Derived.Laws.AppendOwn
import Derived.Test.YtjhocpcpkemcaaaGreatRows
import Derived.WalkKit
import Derived.ProofKit
import Derived.Below
import Derived.Lib.Hide
import Derived.WalkLawsBesides
import Derived.WalkSpells
import Derived.Test.YtjhocpcpkemcaaaGreatQeAD
import Derived.Test.YtjhocpcpkemcaaaGreatQeAJ
import Derived.Deep.QuietTactic
import Derived.BigQuiet
import Derived.StillTailTactics
import Derived.Test.YtjhocpcpkemcaaaGreatQeAK
import Derived.IntWalk
set_option linter.unusedVariables false
set_option maxRecDepth 16000
set_option maxHeartbeats 32000000
namespace Go.Proofs.YtjhocpcpkemcaaaGreat.Sl
open Go.RowKit
section
variable {α:Type} (enc:α→List Value) (k:Nat) (T:TypeId) {lo:Nat}
def At (l:List α) (b off:Nat) (w:World):Prop:=b<w.heap.size∧∀ i x,l[i]?=some x→∀ j u,(enc x)[j]?=some u→w.cell? ⟨b,off+i*k+j,none⟩=some u
def SL (lo:Nat) (l:List α) (v:Value) (w:World):Prop:=∃ a c,v=.slice a l.length c∧(l=[]∧(a=none→c=0)∨∃ b off,a=some ⟨b,off,none⟩∧(b<lo∨∃ cur,w.heap[b]?=some (.cells cur T (0,0)))∧At enc k l b off w)
theorem At.stays {l:List α} {b off:Nat} {w w':World} (h:At enc k l b off w) (hb:Below w.heap.size w w'):At enc k l b off w' :=
 ⟨Nat.lt_of_lt_of_le h.1 hb.size,fun i x hx j u hu=>by rw [hb.cell (p:=⟨b,off+i*k+j,none⟩) h.1];exact h.2 i x hx j u hu⟩
theorem SL.stays (l:List α) (v:Value) (w w':World) (h:SL enc k T lo l v w) (hb:Below w.heap.size w w'):SL enc k T lo l v w':=by
 obtain ⟨a,c,hv,h⟩:=h
 refine ⟨a,c,hv,?_⟩
 rcases h with h | ⟨b,off,ha,ht,h⟩
 ·exact .inl h
 ·exact .inr ⟨b,off,ha,ht.imp id (fun ⟨cur,e⟩=>⟨cur,(hb.block b h.1).trans e⟩),h.stays enc k hb⟩
theorem SL.nil (w:World):SL enc k T lo [] (.slice none 0 0) w:=⟨none,0,rfl,.inl ⟨rfl,fun _=>rfl⟩⟩
theorem SL.empty (a:Addr) (c:Nat) (w:World):SL enc k T lo [] (.slice (some a) 0 c) w:=⟨some a,c,rfl,.inl ⟨rfl,fun h=>by cases h⟩⟩
theorem SL.mk {l:List α} {b off c:Nat} {w:World} (ht:b<lo∨∃ cur,w.heap[b]?=some (.cells cur T (0,0))) (h:At enc k l b off w):SL enc k T lo l (.slice (some ⟨b,off,none⟩) l.length c) w:=⟨_,c,rfl,.inr ⟨b,off,rfl,ht,h⟩⟩
theorem SL.cases {l:List α} {v:Value} {w:World} (h:SL enc k T lo l v w):(l=[]∧∃ a c,v=.slice a 0 c)∨(l≠[]∧∃ b off c,v=.slice (some ⟨b,off,none⟩) l.length c∧At enc k l b off w):=by
 obtain ⟨a,c,hv,h⟩:=h
 by_cases e:l=[]
 ·subst e;exact .inl ⟨rfl,a,c,hv⟩
 ·rcases h with ⟨h,_⟩ | ⟨b,off,rfl,_,h⟩
  ·exact absurd h e
  ·exact .inr ⟨e,b,off,c,hv,h⟩
theorem flat_len {l:List α} (hk:∀ x,(enc x).length=k):(l.flatMap enc).length=l.length*k:=by
 induction l with
 | nil=>simp
 | cons x l ih=>rw [List.flatMap_cons,List.length_append,hk,ih,List.length_cons,Nat.add_mul,Nat.one_mul,Nat.add_comm]
theorem flat_at {l:List α} (hk:∀ x,(enc x).length=k):∀ (i:Nat) (x:α),l[i]?=some x→∀ j u,(enc x)[j]?=some u→(l.flatMap enc)[i*k+j]?=some u:=by
 induction l with
 | nil=>intro i x hx;simp at hx
 | cons y l ih =>
  intro i x hx j u hu
  have hj:j<(enc x).length:=by
   rcases Nat.lt_or_ge j (enc x).length with h | h
   ·exact h
   ·rw [List.getElem?_eq_none h] at hu;cases hu
  rw [List.flatMap_cons]
  cases i with
  | zero =>
   obtain rfl:y=x:=by simpa using hx
   rw [Nat.zero_mul,Nat.zero_add,List.getElem?_append_left hj];exact hu
  | succ i =>
   have e:(i+1)*k+j=(enc y).length+(i*k+j):=by rw [hk y,Nat.add_mul,Nat.one_mul];omega
   rw [e,List.getElem?_append_right (by omega),Nat.add_sub_cancel_left]
   exact ih i x (by simpa using hx) j u hu
theorem SL.own {w:World} {base:Nat} {e:TypeId} {v:Value} {n:Nat} {l:List α} (hk:∀ x,(enc x).length=k) (h0:0<k) (h:w.ownsRow base e k v n (l.flatMap enc)):n=l.length∧SL enc k e lo l v w:=by
 have hn:n=l.length:=by
  have h1:=h.1
  rw [flat_len enc k hk] at h1
  exact (Nat.eq_of_mul_eq_mul_right h0 h1).symm
 subst hn
 refine ⟨rfl,?_⟩
 rcases h.2 with ⟨rfl,h1⟩ | ⟨g,cap,cur,rfl,_,hg,hnc,_,hcs,ht⟩
 ·have e:l=[]:=List.eq_nil_of_length_eq_zero h1
  subst e
  exact SL.nil enc k e w
 ·refine SL.mk enc k e (.inr ⟨_,hg⟩) ⟨(Array.getElem?_eq_some_iff.1 hg).1,fun i x hx j u hu=>?_⟩
  have hf:=flat_at enc k hk i x hx j u hu
  rw [← ht] at hf
  rw [Nat.zero_add]
  simp only [World.cell?,hg]
  have hlt:i*k+j<l.length*k:=by
   rcases Nat.lt_or_ge (i*k+j) (l.length*k) with h | h
   ·exact h
   ·rw [List.getElem?_take,if_neg (by omega)] at hf;cases hf
  rw [List.getElem?_take,if_pos hlt] at hf
  simpa using hf
theorem flat_snoc (l:List α) (x:α):(l++[x]).flatMap enc=l.flatMap enc++enc x:=by simp [List.flatMap_append]
theorem take_snoc {l:List α} {i:Nat} (h:i<l.length):l.take (i+1)=l.take i++[l[i]]:=List.take_succ_eq_append_getElem h
end
end Go.Proofs.YtjhocpcpkemcaaaGreat.Sl
namespace Go.Proofs.YtjhocpcpkemcaaaGreat.Mo
open Go.RowKit
def Ints (w:World) (b off n:Nat) (l:List Int):Prop :=
 l.length=n∧(∀ i,i<n→w.cell? ⟨b,off+i,none⟩=some (.int .i64 (l.getD i 0)))∧∀ x∈l,(Lit.int .i64 x).wf=true
theorem may_any (a:Int) (w:World) :
  Calls Tryz.prog 103 #[.int .i64 a] w fun e w'=>e=.returned (.bool (may a))∧w=w':=by
 by_cases h0:0≤a
 ·by_cases h1:a≤1125899906842624
  ·have HM:=lH (may_of ⟨h0,h1⟩)
   go_enter Tryz.func103,Tryz.ntmps103
   go_wp2
   go_ret
   rw [HM.out]
   exact ⟨by simp,rfl⟩
  ·have HM:=lH (may_no (a:=a) (by omega))
   go_enter Tryz.func103,Tryz.ntmps103
   go_wp2
   go_ret
   rw [HM.out]
   exact ⟨by simp,rfl⟩
 ·have HM:=lH (may_no (a:=a) (by omega))
  have hd:decide (0≤a)=false:=by simp;omega
  go_enter Tryz.func103,Tryz.ntmps103
  go_wp2
  go_ret
  rw [HM.out]
  exact ⟨by simp,rfl⟩
theorem alls_drop (l:List Int) (k:Nat) (h:k<l.length):(l.drop k).all may=(may (l.getD k 0)&&(l.drop (k+1)).all may):=by
 rw [List.drop_eq_getElem_cons h,List.all_cons]
 simp [List.getD,List.getElem?_eq_getElem h]
theorem tot_drop (l:List Int) (k:Nat) (h:k<l.length) (s:Int):tot (l.drop k) s=if may (l.getD k 0)=true then (if 1125899906842624 - s<l.getD k 0 then (0,6) else tot (l.drop (k+1)) (s+l.getD k 0)) else (0,1):=by
 rw [List.drop_eq_getElem_cons h,tot]
 simp [List.getD,List.getElem?_eq_getElem h]
theorem mayAll_any (b off n c:Nat) (l:List Int) (w:World) (hl:Ints w b off n l) (hn:0<n) (hm:n≤maxLen) :
  Calls Tryz.prog 205 #[.slice (some ⟨b,off,none⟩) n c] w fun e w'=>e=.returned (.bool (l.all may))∧w=w':=by
 obtain ⟨hlen,hcell,_⟩:=hl
 unfold maxLen at hm
 have HC:=lH hcell
 clear hcell
 go_enter Tryz.func205,Tryz.ntmps205
 go_wp2
 go_loop [7] (fun i=>∃ k:Nat,k≤n∧i=.int .i64 k∧(l.drop k).all may=l.all may) (fun i=>n - (intOf i).toNat)
 case atStart=>exact ⟨0,Nat.zero_le _,rfl,rfl⟩
 case round =>
  obtain ⟨k,hk,rfl,hd⟩:=hrel
  by_cases hlt:k<n
  ·obtain ⟨x,hx,hck⟩:∃ x,l.getD k 0=x∧w.cell? ⟨b,off+k,none⟩=some (.int .i64 x):=⟨_,rfl,HC.out k hlt⟩
   rw [alls_drop l k (by omega),hx] at hd
   clear hx
   by_cases hy:may x=true
   ·rw [hy,Bool.true_and] at hd
    have HY:=lH hy
    have HD:=lH hd
    clear hd hy
    go_wp2_with fail
    refine (may_any x w).mono ?_
    rintro e w' ⟨rfl,rfl⟩
    rw [HY.out]
    go_wp2
    go_round
    case rel=>exact ⟨k+1,by omega,by go_num,HD.out⟩
    case measure=>simp [intOf];omega
   ·have hy':may x=false:=by simpa using hy
    rw [hy',Bool.false_and] at hd
    have HY:=lH hy'
    have HD:=lH hd
    clear hd hy hy'
    go_wp2_with fail
    refine (may_any x w).mono ?_
    rintro e w' ⟨rfl,rfl⟩
    rw [HY.out]
    go_wp2
    go_ret
    rw [← HD.out]
    exact ⟨rfl,rfl⟩
  ·obtain rfl:k=n:=by omega
   have HD:=lH hd
   clear hd
   go_wp2
   go_ret
   rw [← HD.out,List.drop_eq_nil_of_le (by omega)]
   exact ⟨rfl,rfl⟩
theorem total_any (b off n c:Nat) (l:List Int) (w:World) (hl:Ints w b off n l) (hn:0<n) (hm:n≤maxLen) :
  Calls Tryz.prog 204 #[.slice (some ⟨b,off,none⟩) n c] w fun e w'=>e=.returned (.tuple #[.int .i64 (totS l),.int .i64 (totE l)])∧w=w':=by
 obtain ⟨hlen,hcell,_⟩:=hl
 unfold maxLen at hm
 have HC:=lH hcell
 clear hcell
 go_enter Tryz.func204,Tryz.ntmps204
 go_wp2
 go_loop [4,9] (fun s i=>∃ (k:Nat) (z:Int),k≤n∧i=.int .i64 k∧s=.int .i64 z∧0≤z∧z≤1125899906842624∧tot (l.drop k) z=tot l 0) (fun _ i=>n - (intOf i).toNat)
 case atStart=>exact ⟨0,0,Nat.zero_le _,rfl,rfl,by omega,by omega,rfl⟩
 case round =>
  obtain ⟨k,z,hk,rfl,rfl,z0,z1,hd⟩:=hrel
  by_cases hlt:k<n
  ·obtain ⟨x,hx,hck⟩:∃ x,l.getD k 0=x∧w.cell? ⟨b,off+k,none⟩=some (.int .i64 x):=⟨_,rfl,HC.out k hlt⟩
   rw [tot_drop l k (by omega),hx] at hd
   clear hx
   by_cases hy:may x=true
   ·rw [if_pos hy] at hd
    have hxb:=may_iff.1 hy
    have HY:=lH hy
    by_cases hg:1125899906842624 - z<x
    ·rw [if_pos hg] at hd
     have HD:=lH hd
     clear hd hy
     go_wp2_with fail
     refine (may_any x w).mono ?_
     rintro e w' ⟨rfl,rfl⟩
     rw [HY.out]
     go_wp2
     go_ret2
     unfold totS totE
     rw [← HD.out]
     exact ⟨rfl,rfl⟩
    ·rw [if_neg hg] at hd
     have HD:=lH hd
     clear hd hy
     go_wp2_with fail
     refine (may_any x w).mono ?_
     rintro e w' ⟨rfl,rfl⟩
     rw [HY.out]
     go_wp2
     go_round
     case rel=>exact ⟨k+1,z+x,by omega,by go_num,by go_num,by omega,by omega,HD.out⟩
     case measure=>simp [intOf];omega
   ·rw [if_neg hy] at hd
    have HY:=lH (show may x=false by simpa using hy)
    have HD:=lH hd
    clear hd hy
    go_wp2_with fail
    refine (may_any x w).mono ?_
    rintro e w' ⟨rfl,rfl⟩
    rw [HY.out]
    go_wp2
    go_ret2
    unfold totS totE
    rw [← HD.out]
    exact ⟨rfl,rfl⟩
  ·obtain rfl:k=n:=by omega
   have HD:=lH hd
   clear hd
   go_wp2
   go_ret2
   unfold totS totE
   rw [← HD.out,List.drop_eq_nil_of_le (by omega)]
   exact ⟨rfl,rfl⟩
end Go.Proofs.YtjhocpcpkemcaaaGreat.Mo
namespace Go.Proofs.YtjhocpcpkemcaaaGreat.Mo
open Go.RowKit
open Fx (nx nd)
theorem ints2 (a b:Int) (wa:(Lit.int .i64 a).wf=true) (wb:(Lit.int .i64 b).wf=true) (w:World):Ints (w.alloc (.cells #[.int .i64 a,.int .i64 b] 3)) w.heap.size 0 2 [a,b]:=by
 refine ⟨rfl,fun i hi=>?_,by simp [wa,wb]⟩
 rw [World.cell?_alloc_at _ _ _ _ rfl]
 match i,hi with
 | 0,_=>rfl
 | 1,_=>rfl
theorem below1 (w:World) (o:Obj):Below w.heap.size w (w.alloc o):=(Below.refl _ _).alloc (Nat.le_refl _) _
theorem all2 {a b:Int} {x:Bool} (h:(may a&&may b)=x):[a,b].all may=x:=by simpa using h
theorem add_any (a b:Int) (wa:(Lit.int .i64 a).wf=true) (wb:(Lit.int .i64 b).wf=true) (w:World) :
  Calls Tryz.prog 182 #[.int .i64 a,.int .i64 b] w fun e w'=>e=.returned (.tuple #[.int .i64 (addS a b),.int .i64 (addE a b)])∧Below w.heap.size w w':=by
 have hs:Hid (totS [a,b]=addS a b):=lH (by unfold totS addS;rw [tot2])
 have he:Hid (totE [a,b]=addE a b):=lH (by unfold totE addE;rw [tot2])
 have hi:=lH (ints2 a b wa wb w)
 clear wa wb
 go_enter Tryz.func182,Tryz.ntmps182
 go_wp2_with fail
 refine (total_any _ 0 2 2 [a,b] _ hi.out (by omega) (by decide)).mono ?_
 rintro e w' ⟨rfl,rfl⟩
 rw [hs.out,he.out]
 go_wp2
 go_ret2
 exact ⟨rfl,below1 _ _⟩
theorem sub_any (a b:Int) (wa:(Lit.int .i64 a).wf=true) (wb:(Lit.int .i64 b).wf=true) (w:World) :
  Calls Tryz.prog 183 #[.int .i64 a,.int .i64 b] w fun e w'=>e=.returned (.tuple #[.int .i64 (subS a b),.int .i64 (subE a b)])∧Below w.heap.size w w':=by
 have hi:=lH (ints2 a b wa wb w)
 clear wa wb
 by_cases h:may a=true∧may b=true
 ·have HA:Hid ([a,b].all may=true):=lH (all2 (by rw [h.1,h.2];rfl))
  have ha:=may_iff.1 h.1
  have hb:=may_iff.1 h.2
  by_cases hg:a<b
  ·have HS:Hid (subS a b=0):=lH (by unfold subS sub2;rw [if_pos h,if_pos hg])
   have HE:Hid (subE a b=7):=lH (by unfold subE sub2;rw [if_pos h,if_pos hg])
   clear h
   rw [HS.out,HE.out]
   go_enter Tryz.func183,Tryz.ntmps183
   go_wp2_with fail
   refine (mayAll_any _ 0 2 2 [a,b] _ hi.out (by omega) (by decide)).mono ?_
   rintro e w' ⟨rfl,rfl⟩
   rw [HA.out]
   go_wp2
   go_ret2
   exact ⟨rfl,below1 _ _⟩
  ·have HS:Hid (subS a b=a - b):=lH (by unfold subS sub2;rw [if_pos h,if_neg hg])
   have HE:Hid (subE a b=0):=lH (by unfold subE sub2;rw [if_pos h,if_neg hg])
   clear h
   rw [HS.out,HE.out]
   go_enter Tryz.func183,Tryz.ntmps183
   go_wp2_with fail
   refine (mayAll_any _ 0 2 2 [a,b] _ hi.out (by omega) (by decide)).mono ?_
   rintro e w' ⟨rfl,rfl⟩
   rw [HA.out]
   go_wp2
   go_ret2
   exact ⟨by rfl,below1 _ _⟩
 ·have HA:Hid ([a,b].all may=false):=lH (all2 (by revert h;cases may a<;>cases may b<;>simp))
  have HS:Hid (subS a b=0):=lH (by unfold subS sub2;rw [if_neg h])
  have HE:Hid (subE a b=1):=lH (by unfold subE sub2;rw [if_neg h])
  clear h
  rw [HS.out,HE.out]
  go_enter Tryz.func183,Tryz.ntmps183
  go_wp2_with fail
  refine (mayAll_any _ 0 2 2 [a,b] _ hi.out (by omega) (by decide)).mono ?_
  rintro e w' ⟨rfl,rfl⟩
  rw [HA.out]
  go_wp2
  go_ret2
  exact ⟨rfl,below1 _ _⟩
theorem rMay_any (a:Int) (w:World) :
  Calls Tryz.prog 107 #[.int .i64 a] w fun e w'=>e=.returned (.bool (may a))∧w=w':=by
 by_cases h0:0≤a
 ·by_cases h1:a≤1125899906842624
  ·have HM:=lH (may_of ⟨h0,h1⟩)
   go_enter Tryz.func107,Tryz.ntmps107
   go_wp2
   go_ret
   rw [HM.out]
   exact ⟨by simp,rfl⟩
  ·have HM:=lH (may_no (a:=a) (by omega))
   go_enter Tryz.func107,Tryz.ntmps107
   go_wp2
   go_ret
   rw [HM.out]
   exact ⟨by simp,rfl⟩
 ·have HM:=lH (may_no (a:=a) (by omega))
  have hd:decide (0≤a)=false:=by simp;omega
  go_enter Tryz.func107,Tryz.ntmps107
  go_wp2
  go_ret
  rw [HM.out]
  exact ⟨by simp,rfl⟩
theorem rAdd_any (a b:Int) (w:World) :
  Calls Tryz.prog 160 #[.int .i64 a,.int .i64 b] w fun e w'=>e=.returned (.tuple #[.int .i64 (addS a b),.int .i64 (addE a b)])∧w=w':=by
 by_cases ha:may a=true
 ·have HA:=lH ha
  have ba:=may_iff.1 ha
  by_cases hb:may b=true
  ·have HB:=lH hb
   have bb:=may_iff.1 hb
   have h:may a=true∧may b=true:=⟨ha,hb⟩
   by_cases hg:1125899906842624 - a<b
   ·have HS:Hid (addS a b=0):=lH (by unfold addS add2;rw [if_pos h,if_pos hg])
    have HE:Hid (addE a b=6):=lH (by unfold addE add2;rw [if_pos h,if_pos hg])
    clear h ha hb
    rw [HS.out,HE.out]
    go_enter Tryz.func160,Tryz.ntmps160
    go_wp2_with fail
    refine (rMay_any a w).mono ?_
    rintro e w' ⟨rfl,rfl⟩
    rw [HA.out]
    go_wp2_with fail
    refine (rMay_any b w).mono ?_
    rintro e w' ⟨rfl,rfl⟩
    rw [HB.out]
    go_wp2
    go_ret2
    exact ⟨rfl,rfl⟩
   ·have HS:Hid (addS a b=a+b):=lH (by unfold addS add2;rw [if_pos h,if_neg hg])
    have HE:Hid (addE a b=0):=lH (by unfold addE add2;rw [if_pos h,if_neg hg])
    clear h ha hb
    rw [HS.out,HE.out]
    go_enter Tryz.func160,Tryz.ntmps160
    go_wp2_with fail
    refine (rMay_any a w).mono ?_
    rintro e w' ⟨rfl,rfl⟩
    rw [HA.out]
    go_wp2_with fail
    refine (rMay_any b w).mono ?_
    rintro e w' ⟨rfl,rfl⟩
    rw [HB.out]
    go_wp2
    go_ret2
    exact ⟨rfl,rfl⟩
  ·have HB:Hid (may b=false):=lH (by simpa using hb)
   have HS:Hid (addS a b=0):=lH (by unfold addS add2;rw [if_neg (fun x=>hb x.2)])
   have HE:Hid (addE a b=1):=lH (by unfold addE add2;rw [if_neg (fun x=>hb x.2)])
   clear ha hb
   rw [HS.out,HE.out]
   go_enter Tryz.func160,Tryz.ntmps160
   go_wp2_with fail
   refine (rMay_any a w).mono ?_
   rintro e w' ⟨rfl,rfl⟩
   rw [HA.out]
   go_wp2_with fail
   refine (rMay_any b w).mono ?_
   rintro e w' ⟨rfl,rfl⟩
   rw [HB.out]
   go_wp2
   go_ret2
   exact ⟨rfl,rfl⟩
 ·have HA:Hid (may a=false):=lH (by simpa using ha)
  have HS:Hid (addS a b=0):=lH (by unfold addS add2;rw [if_neg (fun x=>ha x.1)])
  have HE:Hid (addE a b=1):=lH (by unfold addE add2;rw [if_neg (fun x=>ha x.1)])
  clear ha
  rw [HS.out,HE.out]
  go_enter Tryz.func160,Tryz.ntmps160
  go_wp2_with fail
  refine (rMay_any a w).mono ?_
  rintro e w' ⟨rfl,rfl⟩
  rw [HA.out]
  go_wp2
  go_ret2
  exact ⟨rfl,rfl⟩
theorem rSub_any (a b:Int) (w:World) :
  Calls Tryz.prog 162 #[.int .i64 a,.int .i64 b] w fun e w'=>e=.returned (.tuple #[.int .i64 (subS a b),.int .i64 (subE a b)])∧w=w':=by
 by_cases ha:may a=true
 ·have HA:=lH ha
  have ba:=may_iff.1 ha
  by_cases hb:may b=true
  ·have HB:=lH hb
   have bb:=may_iff.1 hb
   have h:may a=true∧may b=true:=⟨ha,hb⟩
   by_cases hg:a<b
   ·have HS:Hid (subS a b=0):=lH (by unfold subS sub2;rw [if_pos h,if_pos hg])
    have HE:Hid (subE a b=7):=lH (by unfold subE sub2;rw [if_pos h,if_pos hg])
    clear h ha hb
    rw [HS.out,HE.out]
    go_enter Tryz.func162,Tryz.ntmps162
    go_wp2_with fail
    refine (rMay_any a w).mono ?_
    rintro e w' ⟨rfl,rfl⟩
    rw [HA.out]
    go_wp2_with fail
    refine (rMay_any b w).mono ?_
    rintro e w' ⟨rfl,rfl⟩
    rw [HB.out]
    go_wp2
    go_ret2
    exact ⟨rfl,rfl⟩
   ·have HS:Hid (subS a b=a - b):=lH (by unfold subS sub2;rw [if_pos h,if_neg hg])
    have HE:Hid (subE a b=0):=lH (by unfold subE sub2;rw [if_pos h,if_neg hg])
    clear h ha hb
    rw [HS.out,HE.out]
    go_enter Tryz.func162,Tryz.ntmps162
    go_wp2_with fail
    refine (rMay_any a w).mono ?_
    rintro e w' ⟨rfl,rfl⟩
    rw [HA.out]
    go_wp2_with fail
    refine (rMay_any b w).mono ?_
    rintro e w' ⟨rfl,rfl⟩
    rw [HB.out]
    go_wp2
    go_ret2
    exact ⟨rfl,rfl⟩
  ·have HB:Hid (may b=false):=lH (by simpa using hb)
   have HS:Hid (subS a b=0):=lH (by unfold subS sub2;rw [if_neg (fun x=>hb x.2)])
   have HE:Hid (subE a b=1):=lH (by unfold subE sub2;rw [if_neg (fun x=>hb x.2)])
   clear ha hb
   rw [HS.out,HE.out]
   go_enter Tryz.func162,Tryz.ntmps162
   go_wp2_with fail
   refine (rMay_any a w).mono ?_
   rintro e w' ⟨rfl,rfl⟩
   rw [HA.out]
   go_wp2_with fail
   refine (rMay_any b w).mono ?_
   rintro e w' ⟨rfl,rfl⟩
   rw [HB.out]
   go_wp2
   go_ret2
   exact ⟨rfl,rfl⟩
 ·have HA:Hid (may a=false):=lH (by simpa using ha)
  have HS:Hid (subS a b=0):=lH (by unfold subS sub2;rw [if_neg (fun x=>ha x.1)])
  have HE:Hid (subE a b=1):=lH (by unfold subE sub2;rw [if_neg (fun x=>ha x.1)])
  clear ha
  rw [HS.out,HE.out]
  go_enter Tryz.func162,Tryz.ntmps162
  go_wp2_with fail
  refine (rMay_any a w).mono ?_
  rintro e w' ⟨rfl,rfl⟩
  rw [HA.out]
  go_wp2
  go_ret2
  exact ⟨rfl,rfl⟩
end Go.Proofs.YtjhocpcpkemcaaaGreat.Mo
namespace Go.Proofs.YtjhocpcpkemcaaaGreat.Ac
open Go.RowKit
open Rw
open Sl
theorem ret_bool {a b:Bool} (h:a=b):Ending.returned (.bool a)=.returned (.bool b):=by rw [h]
theorem ret_int {k:IntKind} {a b:Int} (h:a=b):Ending.returned (.int k a)=.returned (.int k b):=by rw [h]
theorem ret_v {a b:Value} (h:a=b):Ending.returned a=.returned b:=by rw [h]
def enc (h:Hd):List Value:=[.int .i64 h.1,.int .i64 h.2.1,.int .i64 h.2.2]
theorem enc_len (h:Hd):(enc h).length=3:=rfl
abbrev HL (lo:Nat) (l:List Hd) (v:Value) (w:World):Prop:=SL enc 3 52 lo l v w
theorem at3 {l:List Hd} {b off:Nat} {w:World} (h:At enc 3 l b off w) (i:Nat) (hi:i<l.length) :
  w.cell? ⟨b,off+i*3,none⟩=some (.int .i64 l[i].1)∧w.cell? ⟨b,off+i*3+1,none⟩=some (.int .i64 l[i].2.1)∧w.cell? ⟨b,off+i*3+2,none⟩=some (.int .i64 l[i].2.2) :=
 have e:=List.getElem?_eq_getElem hi
 ⟨h.2 i _ e 0 _ rfl,h.2 i _ e 1 _ rfl,h.2 i _ e 2 _ rfl⟩
theorem fieldsP:Tryz.prog.underlying 50=some (.struct (Tryz.prog.fieldsOf 50)):=by kernel_rfl
theorem fieldsH:Tryz.prog.underlying 52=some (.struct (Tryz.prog.fieldsOf 52)):=by kernel_rfl
def eqP (a b:Pu):Bool:=decide (a=b)
theorem eqP_iff {a b:Pu}:eqP a b=true ↔ a=b:=by simp [eqP]
theorem runP (d:Nat) (a b c e:Int) (w:World):(Op.equalIn (d+2) 50 (.agg #[.int .i64 a,.int .i64 b]) (.agg #[.int .i64 c,.int .i64 e])).run Tryz.prog w=.ok (eqP (a,b) (c,e)) w:=by
 rw [run_equalIn_agg w (d+1) _ _ _ fieldsP (by kernel_rfl)]
 simp only [Program.fieldsOf,Tryz.underlying50]
 simp [Op.eqFields,go_sem,eqP]
 by_cases h1:a=c<;>by_cases h2:b=e<;>simp [h1,h2]
theorem eqlP (a b c e:Int) (w:World):(binOp .eql 50 (.agg #[.int .i64 a,.int .i64 b]) (.agg #[.int .i64 c,.int .i64 e])).run Tryz.prog w=.ok (.bool (eqP (a,b) (c,e))) w:=by
 rw [run_eql_struct,show (10000:Nat)=9998+2 from rfl,runP];rfl
theorem neqP (a b c e:Int) (w:World):(binOp .neq 50 (.agg #[.int .i64 a,.int .i64 b]) (.agg #[.int .i64 c,.int .i64 e])).run Tryz.prog w=.ok (.bool (!eqP (a,b) (c,e))) w:=by
 rw [run_neq_struct,show (10000:Nat)=9998+2 from rfl,runP];rfl
theorem guardP (op:BinOp) (x y:Operand) (a b c e:Int) (w:World):(eqGuard op 50 x y (.agg #[.int .i64 a,.int .i64 b]) (.agg #[.int .i64 c,.int .i64 e])).run Tryz.prog w=.ok () w :=
 run_eqGuard_agg w op _ x y _ _ (by kernel_rfl)
def eqH (a b:Hd):Bool:=decide (a=b)
theorem runH (a b c x y z:Int) (w:World):(Op.equalIn 10000 52 (.agg #[.int .i64 a,.int .i64 b,.int .i64 c]) (.agg #[.int .i64 x,.int .i64 y,.int .i64 z])).run Tryz.prog w=.ok (eqH (a,b,c) (x,y,z)) w:=by
 rw [run_equalIn_agg w 9999 _ _ _ fieldsH (by kernel_rfl)]
 simp only [Program.fieldsOf,Tryz.underlying52]
 simp [Op.eqFields,go_sem]
 by_cases h1:a=x<;>by_cases h2:b=y<;>by_cases h3:c=z<;>simp [eqH,h1,h2,h3]
theorem neqH (a b c x y z:Int) (w:World):(binOp .neq 52 (.agg #[.int .i64 a,.int .i64 b,.int .i64 c]) (.agg #[.int .i64 x,.int .i64 y,.int .i64 z])).run Tryz.prog w=.ok (.bool (!eqH (a,b,c) (x,y,z))) w:=by
 rw [run_neq_struct,runH];rfl
theorem guardH (op:BinOp) (p q:Operand) (a b c x y z:Int) (w:World):(eqGuard op 52 p q (.agg #[.int .i64 a,.int .i64 b,.int .i64 c]) (.agg #[.int .i64 x,.int .i64 y,.int .i64 z])).run Tryz.prog w=.ok () w :=
 run_eqGuard_agg w op _ p q _ _ (by kernel_rfl)
attribute [go_sem ↓] eqlP neqP guardP neqH guardH
end Go.Proofs.YtjhocpcpkemcaaaGreat.Ac
namespace Go.Proofs.YtjhocpcpkemcaaaGreat.Ac
open Go.RowKit
open Rw
open Sl
open Mo (may)
variable {lo:Nat}
theorem less_any (a b c d:Int) (w:World) :
  Calls Tryz.prog 108 #[.agg #[.int .i64 a,.int .i64 b],.agg #[.int .i64 c,.int .i64 d]] w fun e w'=>e=.returned (.bool (pless (a,b) (c,d)))∧Below w.heap.size w w':=by
 by_cases h:a=c
 ·have hd:(a != c)=false:=by simpa using h
  have H:Hid (pless (a,b) (c,d)=decide (b<d)):=lH (if_pos h)
  clear h
  go_enter Tryz.func108,Tryz.ntmps108
  go_wp2
  go_ret
  exact ⟨ret_bool H.out.symm,below2 _ _ _⟩
 ·have hd:(a != c)=true:=by simpa using h
  have H:Hid (pless (a,b) (c,d)=decide (a<c)):=lH (if_neg h)
  clear h
  go_enter Tryz.func108,Tryz.ntmps108
  go_wp2
  go_ret
  exact ⟨ret_bool H.out.symm,below2 _ _ _⟩
theorem less_is {a b c d:Int} {r:Bool} (h:Hid (pless (a,b) (c,d)=r)) (w:World) :
  Calls Tryz.prog 108 #[.agg #[.int .i64 a,.int .i64 b],.agg #[.int .i64 c,.int .i64 d]] w fun e w'=>e=.returned (.bool r)∧Below w.heap.size w w':=by
 rw [← h.out];exact less_any a b c d w
theorem pmay_any (a b:Int) (w:World) :
  Calls Tryz.prog 106 #[.agg #[.int .i64 a,.int .i64 b]] w fun e w'=>e=.returned (.bool (pmay (a,b)))∧Below w.heap.size w w':=by
 by_cases h0:0≤a
 ·by_cases h1:a<64
  ·by_cases h2:0≤b
   ·by_cases h3:b<8
    ·have H:Hid (pmay (a,b)=true):=lH (pmay_iff.2 ⟨h0,h1,h2,h3⟩)
     go_enter Tryz.func106,Tryz.ntmps106
     go_wp2
     go_ret
     exact ⟨by rw [H.out];simp,below1 _ _⟩
    ·have H:Hid (pmay (a,b)=false):=lH (by unfold pmay;simp;omega)
     have hd:decide (b<8)=false:=by simp;omega
     go_enter Tryz.func106,Tryz.ntmps106
     go_wp2
     go_ret
     exact ⟨by rw [H.out];simp,below1 _ _⟩
   ·have H:Hid (pmay (a,b)=false):=lH (by unfold pmay;simp;omega)
    have hd:decide (0≤b)=false:=by simp;omega
    clear h2
    go_enter Tryz.func106,Tryz.ntmps106
    go_wp2
    go_ret
    exact ⟨by rw [H.out];simp,below1 _ _⟩
  ·have H:Hid (pmay (a,b)=false):=lH (by unfold pmay;simp;omega)
   have hd:decide (a<64)=false:=by simp;omega
   clear h1
   go_enter Tryz.func106,Tryz.ntmps106
   go_wp2
   go_ret
   exact ⟨by rw [H.out];simp,below1 _ _⟩
 ·have H:Hid (pmay (a,b)=false):=lH (by unfold pmay;simp;omega)
  have hd:decide (0≤a)=false:=by simp;omega
  clear h0
  go_enter Tryz.func106,Tryz.ntmps106
  go_wp2
  go_ret
  exact ⟨by rw [H.out];simp,below1 _ _⟩
theorem pmay_is {a b:Int} {r:Bool} (h:Hid (pmay (a,b)=r)) (w:World) :
  Calls Tryz.prog 106 #[.agg #[.int .i64 a,.int .i64 b]] w fun e w'=>e=.returned (.bool r)∧Below w.heap.size w w':=by
 rw [← h.out];exact pmay_any a b w
theorem get_drop {l:List Hd} {k:Nat} (h:k<l.length) (p:Pu):get (l.drop k) p=if key l[k]=p then amt l[k] else get (l.drop (k+1)) p:=by
 rw [List.drop_eq_getElem_cons h,get]
end Go.Proofs.YtjhocpcpkemcaaaGreat.Ac
namespace Go.Proofs.YtjhocpcpkemcaaaGreat.Ac
open Go.RowKit
open Rw
open Sl
open Mo (may rMay_any)
variable {lo:Nat}
theorem rMay_is {a:Int} {r:Bool} (h:Hid (may a=r)) (w:World) :
  Calls Tryz.prog 107 #[.int .i64 a] w fun e w'=>e=.returned (.bool r)∧w=w':=by
 rw [← h.out];exact rMay_any a w
theorem okAt_0 {l:List Hd} (h:0<l.length):okAt l 0=good l[0]:=by
 unfold okAt;rw [getD_at h];simp
theorem okAt_succ {l:List Hd} {j:Nat} (h:j+1<l.length):okAt l (j+1)=(good l[j+1]&&pless (key l[j]) (key l[j+1])):=by
 unfold okAt;rw [getD_at h,Nat.add_sub_cancel,getD_at (show j<l.length by omega)];simp
theorem good_low {x y z:Int} (h:z<1):good (x,y,z)=false:=by
 rw [Bool.eq_false_iff]
 intro k
 have:1≤z:=(good_iff.1 k).2.1
 omega
theorem rRight_any (l:List Hd) (v:Value) (w:World) (h:HL lo l v w) (hm:l.length≤maxLen) :
  Calls Tryz.prog 61 #[v] w fun e w'=>e=.returned (.bool (right l))∧Below w.heap.size w w':=by
 unfold maxLen at hm
 rcases h.cases with ⟨rfl,a,c,rfl⟩ | ⟨hne,b,off,c,rfl,hat⟩
 ·clear h
  go_enter Tryz.func61,Tryz.ntmps61
  go_wp2
  go_loopw [7] (fun i wr=>i=.int .i64 0∧Below w.heap.size w wr) (fun i _=>0)
  case atStart=>exact ⟨rfl,Below.refl _ _⟩
  case round =>
   obtain ⟨rfl,hb⟩:=hrel
   go_wp2
   go_ret
   exact ⟨rfl,hb⟩
 ·have hbw:=hat.1
  have HA:=lH hat
  obtain ⟨n,hn⟩:∃ n,n=l.length:=⟨_,rfl⟩
  rw [← hn] at hm ⊢
  have HN:=lH hn
  clear h hat hn hne
  go_enter Tryz.func61,Tryz.ntmps61
  go_wp2
  go_loopw [7] (fun i wr=>∃ k:Nat,k≤n∧i=.int .i64 k∧Below w.heap.size w wr∧rightTo l k=true) (fun i _=>n - (intOf i).toNat)
  case atStart=>exact ⟨0,Nat.zero_le _,rfl,Below.refl _ _,rfl⟩
  case round =>
   obtain ⟨k,hk,rfl,hb,hto⟩:=hrel
   have HT:=lH hto
   clear hto
   by_cases hlt:k<n
   ·have hlt2:(k:Int)<n:=by omega
    have hkl:k<l.length:=by rw [← HN.out];exact hlt
    obtain ⟨⟨x,y,z⟩,hx⟩:∃ x,l[k]=x:=⟨_,rfl⟩
    have hc:=at3 HA.out k hkl
    rw [hx] at hc
    simp only at hc
    have HX:=lH hx
    clear hx
    obtain ⟨q0,q1,q2⟩:=hc
    obtain ⟨c1,f1,r1,p1⟩:=bcell hb
    have hbr:b<wr.heap.size:=by have:=hb.size;omega
    go_wp2
    obtain ⟨V,hV⟩:∃ V,V=wr.alloc (.cells #[.int .i64 x,.int .i64 y,.int .i64 z] 52):=⟨_,rfl⟩
    have hbV:Below wr.heap.size wr V:=hV ▸ below1 wr _
    have hzV:wr.heap.size<V.heap.size:=by rw [hV];simp
    have hF:∀ u,Below V.heap.size V u→u.cell? ⟨wr.heap.size,0,none⟩=some (.int .i64 x)∧u.cell? ⟨wr.heap.size,1,none⟩=some (.int .i64 y)∧u.cell? ⟨wr.heap.size,2,none⟩=some (.int .i64 z):=fun u hu=>by
     refine ⟨?_,?_,?_⟩
     ·rw [hu.cell (p:=⟨wr.heap.size,0,none⟩) hzV,hV];simp [go_sem]
     ·rw [hu.cell (p:=⟨wr.heap.size,1,none⟩) hzV,hV];simp [go_sem]
     ·rw [hu.cell (p:=⟨wr.heap.size,2,none⟩) hzV,hV];simp [go_sem]
    have hbx:=nx hb hbV
    rw [← hV]
    clear hV
    cases hp:pmay (x,y)
    ·have HP:=lH hp
     have HR:Hid (right l=false):=lH (right_no k hkl (by unfold okAt;rw [getD_at hkl,HX.out];unfold good;rw [show key (x,y,z)=(x,y) from rfl,hp];rfl))
     refine Rf.rg [0,1,2,3,4,5,6,7,8,9,10,11,12,13,14,15,16,17,18,19,20,21,22,23,24,25,26,27,28,29,30] ?_
     repeat (first | (refine Rf.Steps.sk ?_;simp only [Act.put,sA,sB,sC]) | (refine Rf.Steps.pu (v:=?_) ?_ ?_;rotate_left;(intro w_ hS_;have hk_:=hF w_ hS_;go_simp<;>with_reducible rfl);simp only [Act.put,sA,sB,sC]) | (refine Rf.Steps.ca (v:=?_) (f:=?_) (args:=?_) ?_ ?_ ?_;rotate_left 3;(intro w_ hS_;have hk_:=hF w_ hS_;go_simp<;>first | with_reducible rfl | (constructor<;>with_reducible rfl));(intro w_ hS_;have hk_:=hF w_ hS_;first | (go_at_call 106;refine (pmay_is HP _).mono ?_;first | (rintro e w_ ⟨rfl,rfl⟩;refine ⟨?_,Below.refl _ _⟩;with_reducible rfl) | (rintro e w_ ⟨rfl,hb_⟩;refine ⟨?_,hb_⟩;with_reducible rfl)));simp only [Act.put,sA,sB,sC]))
     refine Rf.Steps.nil (by kernel_rfl) ?_
     intro w4 hb6
     go_wp2
     go_ret
     exact ⟨ret_bool HR.out.symm,nx hbx hb6⟩
    ·have HP:=lH hp
     by_cases hz1:z<1
     ·have HR:Hid (right l=false):=lH (right_no k hkl (by unfold okAt;rw [getD_at hkl,HX.out,good_low hz1];rfl))
      have hd:decide (z<1)=true:=by simpa using hz1
      clear hz1
      refine Rf.rg [0,1,2,3,4,5,6,7,8,9,10,11,12,13,14,15,16,17,18,19,20,21,22,23,24,25,26,27,28,29,30] ?_
      repeat (first | (refine Rf.Steps.sk ?_;simp only [Act.put,sA,sB,sC]) | (refine Rf.Steps.pu (v:=?_) ?_ ?_;rotate_left;(intro w_ hS_;have hk_:=hF w_ hS_;go_simp<;>with_reducible rfl);simp only [Act.put,sA,sB,sC]) | (refine Rf.Steps.ca (v:=?_) (f:=?_) (args:=?_) ?_ ?_ ?_;rotate_left 3;(intro w_ hS_;have hk_:=hF w_ hS_;go_simp<;>first | with_reducible rfl | (constructor<;>with_reducible rfl));(intro w_ hS_;have hk_:=hF w_ hS_;first | (go_at_call 106;refine (pmay_is HP _).mono ?_;first | (rintro e w_ ⟨rfl,rfl⟩;refine ⟨?_,Below.refl _ _⟩;with_reducible rfl) | (rintro e w_ ⟨rfl,hb_⟩;refine ⟨?_,hb_⟩;with_reducible rfl)));simp only [Act.put,sA,sB,sC]))
      refine Rf.Steps.nil (by kernel_rfl) ?_
      intro w4 hb6
      go_wp2
      go_ret
      exact ⟨ret_bool HR.out.symm,nx hbx hb6⟩
     ·have hd:decide (z<1)=false:=by simpa using hz1
      cases hmz:may z
      ·have HM:=lH hmz
       have HR:Hid (right l=false):=lH (right_no k hkl (by unfold okAt;rw [getD_at hkl,HX.out];unfold good;rw [show amt (x,y,z)=z from rfl,hmz];simp))
       clear hz1
       refine Rf.rg [0,1,2,3,4,5,6,7,8,9,10,11,12,13,14,15,16,17,18,19,20,21,22,23,24,25,26,27,28,29,30] ?_
       repeat (first | (refine Rf.Steps.sk ?_;simp only [Act.put,sA,sB,sC]) | (refine Rf.Steps.pu (v:=?_) ?_ ?_;rotate_left;(intro w_ hS_;have hk_:=hF w_ hS_;go_simp<;>with_reducible rfl);simp only [Act.put,sA,sB,sC]) | (refine Rf.Steps.ca (v:=?_) (f:=?_) (args:=?_) ?_ ?_ ?_;rotate_left 3;(intro w_ hS_;have hk_:=hF w_ hS_;go_simp<;>first | with_reducible rfl | (constructor<;>with_reducible rfl));(intro w_ hS_;have hk_:=hF w_ hS_;first | (go_at_call 106;refine (pmay_is HP _).mono ?_;first | (rintro e w_ ⟨rfl,rfl⟩;refine ⟨?_,Below.refl _ _⟩;with_reducible rfl) | (rintro e w_ ⟨rfl,hb_⟩;refine ⟨?_,hb_⟩;with_reducible rfl)) | (go_at_call 107;refine (rMay_is HM _).mono ?_;first | (rintro e w_ ⟨rfl,rfl⟩;refine ⟨?_,Below.refl _ _⟩;with_reducible rfl) | (rintro e w_ ⟨rfl,hb_⟩;refine ⟨?_,hb_⟩;with_reducible rfl)));simp only [Act.put,sA,sB,sC]))
       refine Rf.Steps.nil (by kernel_rfl) ?_
       intro w4 hb6
       go_wp2
       go_ret
       exact ⟨ret_bool HR.out.symm,nx hbx hb6⟩
      ·have HM:=lH hmz
       have hg:good (x,y,z)=true:=by unfold good;rw [show key (x,y,z)=(x,y) from rfl,show amt (x,y,z)=z from rfl,hp,hmz];simp;omega
       have HG:=lH hg
       clear hz1 hg
       cases k with
       | zero =>
        have HS:Hid (rightTo l 1=true):=lH (by rw [rightTo_succ,HT.out,okAt_0 hkl,HX.out,HG.out];rfl)
        refine Rf.rg [0,1,2,3,4,5,6,7,8,9,10,11,12,13,14,15,16,17,18,19,20,21,22,23,24,25,26,27,28,29,30] ?_
        repeat (first | (refine Rf.Steps.sk ?_;simp only [Act.put,sA,sB,sC]) | (refine Rf.Steps.pu (v:=?_) ?_ ?_;rotate_left;(intro w_ hS_;have hk_:=hF w_ hS_;go_simp<;>with_reducible rfl);simp only [Act.put,sA,sB,sC]) | (refine Rf.Steps.ca (v:=?_) (f:=?_) (args:=?_) ?_ ?_ ?_;rotate_left 3;(intro w_ hS_;have hk_:=hF w_ hS_;go_simp<;>first | with_reducible rfl | (constructor<;>with_reducible rfl));(intro w_ hS_;have hk_:=hF w_ hS_;first | (go_at_call 106;refine (pmay_is HP _).mono ?_;first | (rintro e w_ ⟨rfl,rfl⟩;refine ⟨?_,Below.refl _ _⟩;with_reducible rfl) | (rintro e w_ ⟨rfl,hb_⟩;refine ⟨?_,hb_⟩;with_reducible rfl)) | (go_at_call 107;refine (rMay_is HM _).mono ?_;first | (rintro e w_ ⟨rfl,rfl⟩;refine ⟨?_,Below.refl _ _⟩;with_reducible rfl) | (rintro e w_ ⟨rfl,hb_⟩;refine ⟨?_,hb_⟩;with_reducible rfl)));simp only [Act.put,sA,sB,sC]))
        refine Rf.Steps.nil (by kernel_rfl) ?_
        intro w4 hb6
        go_wp2
        go_roundw
        case rel=>exact ⟨1,by omega,by go_num,nx hbx hb6,HS.out⟩
        case measure=>simp [intOf];omega
       | succ j =>
        have hjl:j<l.length:=by omega
        obtain ⟨⟨x',y',z'⟩,hx'⟩:∃ x,l[j]=x:=⟨_,rfl⟩
        have hc':=at3 HA.out j hjl
        rw [hx'] at hc'
        simp only at hc'
        have HX':=lH hx'
        clear hx'
        obtain ⟨s0,s1,s2⟩:=hc'
        have hF2:∀ u,Below V.heap.size V u→u.cell? ⟨wr.heap.size,0,none⟩=some (.int .i64 x)∧u.cell? ⟨wr.heap.size,1,none⟩=some (.int .i64 y)∧u.cell? ⟨wr.heap.size,2,none⟩=some (.int .i64 z)∧u.cell? ⟨b,off+j*3,none⟩=some (.int .i64 x')∧u.cell? ⟨b,off+j*3+1,none⟩=some (.int .i64 y'):=fun u hu=>by
         have hbu:=nx hbx hu
         obtain ⟨e0,e1,e2⟩:=hF u hu
         exact ⟨e0,e1,e2,by rw [hbu.cell (p:=⟨b,off+j*3,none⟩) hbw];exact s0,by rw [hbu.cell (p:=⟨b,off+j*3+1,none⟩) hbw];exact s1⟩
        have hj0:(0:Int)≤j:=by omega
        have hjn:(j:Int)<n:=by omega
        have d1:decide ((0:Int)<(j:Int)+1)=true:=by rw [decide_eq_true_eq];omega
        have d2:(j:Int)+1 - 1=j:=by omega
        have d3:IntKind.i64.wrap (j:Int)=j:=IntWalk.i64_in _ (by omega)
        clear hF s0 s1 s2 q0 q1 q2
        cases hl:pless (x',y') (x,y)
        ·have HL:=lH hl
         have HR:Hid (right l=false):=lH (right_no (j+1) hkl (by rw [okAt_succ hkl,HX.out,HX'.out,HG.out];exact hl))
         clear hl
         refine Rf.rg [0,1,2,3,4,5,6,7,8,9,10,11,12,13,14,15,16,17,18,19,20,21,22,23,24,25,26,27,28,29,30] ?_
         repeat (first | (refine Rf.Steps.sk ?_;simp only [Act.put,sA,sB,sC]) | (refine Rf.Steps.pu (v:=?_) ?_ ?_;rotate_left;(intro w_ hS_;have hk_:=hF2 w_ hS_;go_simp<;>with_reducible rfl);simp only [Act.put,sA,sB,sC]) | (refine Rf.Steps.ca (v:=?_) (f:=?_) (args:=?_) ?_ ?_ ?_;rotate_left 3;(intro w_ hS_;have hk_:=hF2 w_ hS_;go_simp<;>first | with_reducible rfl | (constructor<;>with_reducible rfl));(intro w_ hS_;have hk_:=hF2 w_ hS_;first | (go_at_call 106;refine (pmay_is HP _).mono ?_;first | (rintro e w_ ⟨rfl,rfl⟩;refine ⟨?_,Below.refl _ _⟩;with_reducible rfl) | (rintro e w_ ⟨rfl,hb_⟩;refine ⟨?_,hb_⟩;with_reducible rfl)) | (go_at_call 107;refine (rMay_is HM _).mono ?_;first | (rintro e w_ ⟨rfl,rfl⟩;refine ⟨?_,Below.refl _ _⟩;with_reducible rfl) | (rintro e w_ ⟨rfl,hb_⟩;refine ⟨?_,hb_⟩;with_reducible rfl)) | (go_at_call 108;refine (less_is HL _).mono ?_;first | (rintro e w_ ⟨rfl,rfl⟩;refine ⟨?_,Below.refl _ _⟩;with_reducible rfl) | (rintro e w_ ⟨rfl,hb_⟩;refine ⟨?_,hb_⟩;with_reducible rfl)));simp only [Act.put,sA,sB,sC]))
         refine Rf.Steps.nil (by kernel_rfl) ?_
         intro w4 hb6
         go_wp2
         go_ret
         exact ⟨ret_bool HR.out.symm,nx hbx hb6⟩
        ·have HL:=lH hl
         have HS:Hid (rightTo l (j+1+1)=true):=lH (by rw [rightTo_succ,HT.out,okAt_succ hkl,HX.out,HX'.out,HG.out];exact hl)
         clear hl
         refine Rf.rg [0,1,2,3,4,5,6,7,8,9,10,11,12,13,14,15,16,17,18,19,20,21,22,23,24,25,26,27,28,29,30] ?_
         repeat (first | (refine Rf.Steps.sk ?_;simp only [Act.put,sA,sB,sC]) | (refine Rf.Steps.pu (v:=?_) ?_ ?_;rotate_left;(intro w_ hS_;have hk_:=hF2 w_ hS_;go_simp<;>with_reducible rfl);simp only [Act.put,sA,sB,sC]) | (refine Rf.Steps.ca (v:=?_) (f:=?_) (args:=?_) ?_ ?_ ?_;rotate_left 3;(intro w_ hS_;have hk_:=hF2 w_ hS_;go_simp<;>first | with_reducible rfl | (constructor<;>with_reducible rfl));(intro w_ hS_;have hk_:=hF2 w_ hS_;first | (go_at_call 106;refine (pmay_is HP _).mono ?_;first | (rintro e w_ ⟨rfl,rfl⟩;refine ⟨?_,Below.refl _ _⟩;with_reducible rfl) | (rintro e w_ ⟨rfl,hb_⟩;refine ⟨?_,hb_⟩;with_reducible rfl)) | (go_at_call 107;refine (rMay_is HM _).mono ?_;first | (rintro e w_ ⟨rfl,rfl⟩;refine ⟨?_,Below.refl _ _⟩;with_reducible rfl) | (rintro e w_ ⟨rfl,hb_⟩;refine ⟨?_,hb_⟩;with_reducible rfl)) | (go_at_call 108;refine (less_is HL _).mono ?_;first | (rintro e w_ ⟨rfl,rfl⟩;refine ⟨?_,Below.refl _ _⟩;with_reducible rfl) | (rintro e w_ ⟨rfl,hb_⟩;refine ⟨?_,hb_⟩;with_reducible rfl)));simp only [Act.put,sA,sB,sC]))
         refine Rf.Steps.nil (by kernel_rfl) ?_
         intro w4 hb6
         go_wp2
         go_roundw
         case rel=>exact ⟨j+1+1,by omega,by go_num,nx hbx hb6,HS.out⟩
         case measure=>simp [intOf];omega
   ·obtain rfl:k=n:=by omega
    have HR:Hid (right l=true):=lH (by unfold right;rw [← HN.out];exact HT.out)
    go_wp2
    go_ret
    exact ⟨ret_bool HR.out.symm,hb⟩
end Go.Proofs.YtjhocpcpkemcaaaGreat.Ac
namespace Go.Proofs.YtjhocpcpkemcaaaGreat.Ac
open Go.RowKit
open Rw
open Sl
variable {lo:Nat}
theorem tot_le {l:List Hd} (hr:∀ h∈l,good h=true) (s:Int):0≤tot s l∧tot s l≤l.length*1125899906842624:=by
 induction l with
 | nil=>simp [tot]
 | cons h r ih =>
  have i:=ih fun k hk=>hr k (List.mem_cons_of_mem _ hk)
  have g:=(good_iff.1 (hr h List.mem_cons_self)).2
  rw [tot,List.length_cons]
  have e:((r.length+1:Nat):Int)*1125899906842624=r.length*1125899906842624+1125899906842624:=by
   rw [Int.natCast_add,Int.add_mul];omega
  rw [e]
  split<;>omega
theorem tot_bd {l:List Hd} (hr:Right l) (s:Int) (k:Nat):0≤tot s (l.take k)∧tot s (l.take k)≤576460752303423488:=by
 have h1:=tot_le (l:=l.take k) (fun h hh=>hr.1 h (List.mem_of_mem_take hh)) s
 have h2:=right_512 hr
 have h3:(l.take k).length≤512:=by rw [List.length_take];omega
 omega
theorem tot_take {l:List Hd} {k:Nat} (h:k<l.length) (s:Int):tot s (l.take (k+1))=tot s (l.take k)+(if l[k].2.1=s then amt l[k] else 0):=by
 rw [take_snoc h,tot_app,tot,tot,Int.add_zero]
theorem rRight_is {l:List Hd} {v:Value} {r:Bool} (h:Hid (right l=r)) (w:World) (hl:HL lo l v w) (hm:l.length≤maxLen) :
  Calls Tryz.prog 61 #[v] w fun e w'=>e=.returned (.bool r)∧Below w.heap.size w w':=by
 rw [← h.out];exact rRight_any l v w hl hm
end Go.Proofs.YtjhocpcpkemcaaaGreat.Ac
namespace Go.Proofs.YtjhocpcpkemcaaaGreat.Ac
open Go.RowKit
open Rw
open Sl
variable {lo:Nat}
def Post (F:Value→World→Prop) (w:World) (e:Ending) (w':World):Prop:=∃ v,e=.returned v∧Below w.heap.size w w'∧F v w'
def ofL (l:List Hd) (a:Int):List Hd:=l.filter fun h=>h.1==a
theorem infoH:(Tryz.prog.info? 52).map (fun i=>(i.zero,i.size,i.bytes))=some (some (.agg #[.int .i64 0,.int .i64 0,.int .i64 0]),3,24):=by kernel_rfl
abbrev Own (B:Nat) (l:List Hd) (v:Value) (w:World):Prop:=w.ownsRow B 52 3 v l.length (l.flatMap enc)
theorem Own.hl {B:Nat} {l:List Hd} {v:Value} {w:World} (h:Own B l v w):HL lo l v w:=(SL.own enc 3 enc_len (by decide) h).2
theorem Own.nil (B:Nat) (w:World):Own B [] (.slice none 0 0) w:=World.ownsRow_nil w B _ 3
theorem Own.snoc {B:Nat} {l:List Hd} {h:Hd} {v:Value} {w:World} (k:w.ownsRow B 52 3 v (l.length+1) (l.flatMap enc++enc h)):Own B (l++[h]) v w:=by
 unfold Own;rw [flat_snoc,List.length_append];exact k
theorem ofL_take {l:List Hd} {k:Nat} (h:k<l.length) (a:Int):ofL (l.take (k+1)) a=ofL (l.take k) a++(if l[k].1=a then [l[k]] else []):=by
 unfold ofL
 rw [take_snoc h,List.filter_append]
 by_cases e:l[k].1=a
 ·rw [if_pos e,List.filter_cons_of_pos (by simpa using e)];rfl
 ·rw [if_neg e,List.filter_cons_of_neg (by simpa using e)];rfl
theorem ofL_len (l:List Hd) (a:Int):(ofL l a).length≤l.length:=List.length_filter_le _ _
end Go.Proofs.YtjhocpcpkemcaaaGreat.Ac
