/- holdings of the landed package account: the right list of what a map from purses has. -/
import Derived.Test.YthecinmekoaphaaGreatQbZZ
import Derived.Test.YthecinmekoaphaaGreatQbAX
import Derived.Test.YthecinmekoaphaaGreatQbAR
import Derived.Shelf.Abstract
set_option linter.unusedVariables false
set_option maxRecDepth 16000
set_option maxHeartbeats 32000000
namespace Go.Proofs.YthecinmekoaphaaGreat.Ac
open Go.RowKit Go.Maps Go.Sort Go.Shelf
open Rw
open Sl
open Mg
variable {lo : Nat}
def toL (g : Pu→Int) (ss : List Pu) : List Hd:=(ss.filter fun p=>decide (0<g p)).map fun p=>(p.1,p.2,g p)
theorem toL_cons (g : Pu→Int) (p : Pu) (ss : List Pu) : toL g (p :: ss)=(if 0<g p then [(p.1,p.2,g p)] else [])++toL g ss:=by
 unfold toL
 by_cases e : 0<g p
 ·rw [if_pos e,List.filter_cons_of_pos (by simpa using e)];rfl
 ·rw [if_neg e,List.filter_cons_of_neg (by simpa using e)];rfl
theorem toL_take {g : Pu→Int} {ss : List Pu} {k : Nat} (h : k<ss.length) : toL g (ss.take (k+1))=toL g (ss.take k)++(if 0<g ss[k] then [(ss[k].1,ss[k].2,g ss[k])] else []):=by
 unfold toL
 rw [take_snoc h,List.filter_append,List.map_append]
 by_cases e : 0<g ss[k]
 ·rw [if_pos e,List.filter_cons_of_pos (by simpa using e)];rfl
 ·rw [if_neg e,List.filter_cons_of_neg (by simpa using e)];rfl
theorem toL_len (g : Pu→Int) (ss : List Pu) : (toL g ss).length≤ss.length:=by
 unfold toL;rw [List.length_map];exact List.length_filter_le _ _
theorem toL_right {g : Pu→Int} {ss : List Pu} (hp : ∀ p∈ss,pmay p=true∧g p≤1125899906842624) (hs : ss.Pairwise fun a b=>pless a b=true) : Right (toL g ss):=by
 refine ⟨fun h hm=>?_,?_⟩
 ·obtain ⟨p,hp2,rfl⟩:=List.mem_map.1 hm
  obtain ⟨h1,h2⟩:=List.mem_filter.1 hp2
  have h3 : 0<g p:=by simpa using h2
  exact good_iff.2 ⟨(hp p h1).1,by show 1≤g p;omega,(hp p h1).2⟩
 ·exact List.pairwise_map.2 (hs.filter _)
theorem toL_get {g : Pu→Int} : ∀ {ss : List Pu} (_hs : ss.Pairwise fun a b=>pless a b=true) (_hg : ∀ p∈ss,0≤g p) (q : Pu),get (toL g ss) q=if q∈ss then g q else 0
 | [],_,_,q=>by simp [toL,get]
 | p :: ss,hs,hg,q=>by
  rw [List.pairwise_cons] at hs
  have ih:=toL_get hs.2 (fun x hx=>hg x (List.mem_cons_of_mem _ hx)) q
  have h0:=hg p List.mem_cons_self
  rw [toL_cons]
  by_cases e : q=p
  ·subst e
   rw [if_pos List.mem_cons_self]
   by_cases e2 : 0<g q
   ·rw [if_pos e2,List.singleton_append,get,key_mk,if_pos rfl];rfl
   ·rw [if_neg e2,List.nil_append,ih,if_neg (fun hm=>by have:=hs.1 q hm;rw [pless_irrefl] at this;cases this)];omega
  ·have e3 : (q∈p :: ss)=(q∈ss):=by simp [e]
   simp only [e3]
   by_cases e2 : 0<g p
   ·rw [if_pos e2,List.singleton_append,get,key_mk,if_neg (fun x=>e x.symm),ih]
   ·rw [if_neg e2,List.nil_append,ih]
theorem size_le {b n : Nat} {D : DataW Unit} {g : Pu→Int} {w : World} (h : MQ g b n D w) : Maps.size D≤n:=by
 obtain ⟨_,⟨es,c,_,_,hs,hD⟩,_⟩:=h
 subst hD
 rw [size_eq,length_sorted,List.length_map,Array.length_toList]
 exact hs
theorem toL_all {b n : Nat} {D : DataW Unit} {g : Pu→Int} {w : World} {ss : List Pu} (h : MQ g b n D w) (hk : Keys Tryz.prog 53 encP D ss) (hs : ss.Pairwise fun a b=>pless a b=true) (hg : ∀ p,pmay p=true→0≤g p∧g p≤1125899906842624) :
  Right (toL g ss)∧(∀ p∈ss,pmay p=true)∧∀ q,get (toL g ss) q=if pmay q=true then g q else 0:=by
 have hm : ∀ p∈ss,pmay p=true:=fun p hp=>by
  obtain ⟨kl,h1,h2⟩:=hk.2.1 p hp
  obtain ⟨q,hq,e⟩:=h.isKey keyedQ h1 h2
  rw [encP_inj e];exact hq
 refine ⟨toL_right (fun p hp=>⟨hm p hp,(hg p (hm p hp)).2⟩) hs,hm,fun q=>?_⟩
 rw [toL_get hs (fun p hp=>(hg p (hm p hp)).1)]
 by_cases e : q∈ss
 ·rw [if_pos e,if_pos (hm q e)]
 ·rw [if_neg e]
  by_cases e2 : pmay q=true
  ·rw [if_pos e2]
   obtain ⟨kl,hkl⟩:=keyQ e2
   cases hh : has D kl
   ·exact (h.none ⟨q,e2,rfl⟩ hkl hh).symm
   ·obtain ⟨x,hx,hx2⟩:=hk.2.2 kl hh
    have:=keyedQ.inj hx2 hkl
    rw [encP_inj this] at hx
    exact absurd hx e
  ·rw [if_neg e2]
theorem at2 {l : List Pu} {b off : Nat} {w : World} (h : At encL 2 l b off w) (i : Nat) (hi : i<l.length) :
  w.cell? ⟨b,off+i*2,none⟩=some (.int .i64 l[i].1)∧w.cell? ⟨b,off+i*2+1,none⟩=some (.int .i64 l[i].2) :=
 have e:=List.getElem?_eq_getElem hi
 ⟨h.2 i _ e 0 _ rfl,h.2 i _ e 1 _ rfl⟩
theorem Own.stays {B : Nat} {l : List Hd} {v : Value} {w w' : World} (h : Own B l v w) (hb : Below w.heap.size w w') : Own B l v w':=by
 refine ⟨h.1,?_⟩
 rcases h.2 with h | ⟨g,cap,cur,h1,h2,h3,h4⟩
 ·exact .inl h
 ·exact .inr ⟨g,cap,cur,h1,h2,(hb.block g (Array.getElem?_eq_some_iff.1 h3).1).trans h3,h4⟩
theorem Own.apart {B : Nat} {l : List Hd} {v : Value} {w : World} (h : Own B l v w) {g : Nat} {cur : Array Value} {fr : Nat × Nat} (hg : w.heap[g]?=some (.cells cur 53 fr)) : some g≠v.ownBlock:=by
 rcases h.2 with ⟨rfl,_⟩ | ⟨g',cap,cur',rfl,_,h3,_⟩
 ·simp [Value.ownBlock]
 ·intro e
  obtain rfl : g=g':=by simpa [Value.ownBlock] using e
  rw [hg] at h3
  simp at h3
def AllOf (lo : Nat) (g : Pu→Int) (w : World) (e : Ending) (w' : World) : Prop:=∃ (v : Value) (L : List Hd),e=.returned v∧HL lo L v w'∧Right L∧(∀ q,get L q=if pmay q=true then g q else 0)∧Below w.heap.size w w'
theorem holdings_any (b n : Nat) (D : DataW Unit) (g : Pu→Int) (w : World) (h : MQ g b n D w) (hn : n≤1000000) (hg : ∀ p,pmay p=true→0≤g p∧g p≤1125899906842624) :
  Calls Tryz.prog 107 #[.map (some b)] w (AllOf lo g w):=by
 obtain ⟨i0,hi,hz0,hz1,hz2⟩:=info_parts infoH
 have HM:=lH h
 have HN:=lH hn
 have HG:=lH hg
 have HMd : Hid (Own w.heap.size [] (.slice (some ⟨w.heap.size,0,none⟩) 0 0) (w.alloc (.cells #[] 55))):=lH (own_made w)
 clear h hn hg
 go_enter Tryz.func107,Tryz.ntmps107
 go_wp2_with fail
 refine ((callsIn_wide (n:=1)).1 (keys_in Fence.wide 1 trivial rfl (some b) _)).mono ?_
 rintro e w1 ⟨rfl,hw1⟩
 have hb1 : Below w.heap.size w w1:=by rw [hw1];exact below2 _ _ _
 have h01 : Below (w.alloc (.cells #[] 55)).heap.size (w.alloc (.cells #[] 55)) w1:=by rw [hw1];exact below1 _ _
 have hc : w1.cell? ⟨w.heap.size+1,0,none⟩=some (.map (some b)):=by rw [hw1];simp [go_sem]
 have hz : w.heap.size+1<w1.heap.size:=by rw [hw1];simp
 have HC:=lH (sorted_any (w.heap.size+1) b n D g w1 (HM.out.stays hb1) hz hc (Nat.le_trans (size_le HM.out) HN.out))
 have HO1 : Hid (Own w.heap.size [] (.slice (some ⟨w.heap.size,0,none⟩) 0 0) w1):=lH (by rw [hw1];exact (HMd.out).alloc _)
 clear hw1 hc HMd
 go_wp2_with fail
 refine HC.out.mono ?_
 rintro e w2 ⟨v,ss,rfl,hk,hs,hpl,hln,hb2⟩
 have HL:=lH (toL_all HM.out hk hs HG.out)
 have hbw : Below w.heap.size w w2:=nx hb1 hb2
 have HO2 : Hid (Own w.heap.size [] (.slice (some ⟨w.heap.size,0,none⟩) 0 0) w2):=lH (HO1.out.stays hb2)
 obtain ⟨a,c,rfl,hat⟩:=hpl
 have HK:=lH hk
 clear hk hs HO1 h01 hb1 hb2 HC
 by_cases hss : ss=[]
 ·subst hss
  clear hat
  go_wp2
  go_loopw [3,12] (fun t i wr=>i=.int .i64 0∧t=.slice (some ⟨w.heap.size,0,none⟩) 0 0∧wr=w2) (fun _ i _=>0)
  case atStart=>exact ⟨rfl,rfl,rfl⟩
  case round =>
   obtain ⟨rfl,rfl,rfl⟩:=hrel
   go_wp2
   go_ret
   exact ⟨_,toL g [],rfl,SL.empty enc 3 55 _ _ _,HL.out.1,HL.out.2.2,hbw⟩
 ·rcases hat with e | ⟨gb,cur,rfl,hcur,hat⟩
  ·exact absurd e hss
  ·have HA:=lH hat
   have HCu:=lH hcur
   obtain ⟨m,hm⟩ : ∃ m,m=ss.length:=⟨_,rfl⟩
   rw [← hm] at hln ⊢
   have HMn:=lH hm
   have hgb : gb<w2.heap.size:=hat.1
   clear hat hcur hm hss
   go_wp2
   go_loopw [3,12] (fun t i wr=>∃ k : Nat,k≤m∧i=.int .i64 k∧Below w.heap.size w wr∧Own w.heap.size (toL g (ss.take k)) t wr∧wr.heap[gb]?=some (.cells cur 53 (0,0))) (fun _ i _=>m - (intOf i).toNat)
   case atStart=>exact ⟨0,Nat.zero_le _,rfl,hbw,HO2.out,HCu.out⟩
   case round =>
    obtain ⟨k,hk,rfl,hb,hown,hcu⟩:=hrel
    have HO:=lH hown
    have HCr:=lH hcu
    clear hown hcu
    by_cases hlt : k<m
    ·have hlt2 : (k : Int)<m:=by omega
     have hks : k<ss.length:=by rw [← HMn.out];exact hlt
     obtain ⟨⟨x,y⟩,hx⟩ : ∃ x,ss[k]=x:=⟨_,rfl⟩
     have hgr : gb<wr.heap.size:=(Array.getElem?_eq_some_iff.1 HCr.out).1
     have hq : ∀ o,wr.cell? ⟨gb,o,none⟩=w2.cell? ⟨gb,o,none⟩:=fun o=>by
      have h1:=HCr.out
      have h2:=HCu.out
      simp [World.cell?,h1,h2]
     have hc:=at2 HA.out k hks
     have ht:=toL_take (g:=g) hks
     rw [hx] at hc ht
     simp only [Nat.zero_add] at hc
     rw [← hq,← hq] at hc
     obtain ⟨q0,q1⟩:=hc
     have hp : pmay (x,y)=true:=by rw [← hx];exact HL.out.2.1 _ (List.getElem_mem hks)
     obtain ⟨z,hz⟩ : ∃ z,g (x,y)=z:=⟨_,rfl⟩
     have hlk:=MQ.look (HM.out.stays (hb.trans (((Below.refl _ wr).alloc (Nat.le_refl _) (.cells #[.int .i64 x,.int .i64 y] 53)).mono hb.size))) hp
     rw [hz] at hlk ht
     have HTk : Hid (toL g (ss.take (k+1))=toL g (ss.take k)++if 0<z then [(x,y,z)] else []):=lH ht
     have hsz:=hb.size
     clear hx ht hq hz hp
     by_cases he : 0<z
     ·have HE:=lH he
      have hlen:=toL_len g (ss.take k)
      have hlen2 : (ss.take k).length≤k:=List.length_take_le _ _
      have hbA:=(hb.alloc (by omega) (.cells #[.int .i64 x,.int .i64 y] 53)).alloc (by simp;omega) (.cells #[.int .i64 x,.int .i64 y,.int .i64 z] 55)
      go_wp2_with (at_builtin;refine wpList_append_own _ rfl _ _ 26 rfl (w.heap.size) 55 i0 (.agg #[.int .i64 0,.int .i64 0,.int .i64 0]) 3 24 Tryz.underlying26 hi hz0 hz1 hz2 rfl (by decide) _ _ _ rfl (HO.out.alloc _ |>.alloc _) (⟨wr.heap.size+1,0,none⟩) 1 1 (enc (x,y,z)) rfl rfl ?c1 ?c2 ?c3 ?c4 ?c5 ?_)
      case c1=>intro j u hj;rcases j with _ | _ | _ | _ | _ | _<;>simp [enc] at hj<;>subst hj<;>simp [Addr.add,go_sem]
      case c2=>intro u hu;simp [enc] at hu;rcases hu with rfl | rfl | rfl<;>rfl
      case c3=>unfold maxLen;omega
      case c4=>omega
      case c5=>have:=(hbA).size;simp at this ⊢;omega
      intro v2 w3 hown2 hg_ _
      have hb3:=(hbA).grown hg_ (by have:=(hbA).size;simp at this ⊢;omega) (fun k_ hk_=>((HO.out).lt k_ hk_).1)
      have hgx:=hg_
      have HO3 : Hid (Own w.heap.size (toL g (ss.take (k+1))) v2 w3):=lH (by rw [HTk.out,if_pos HE.out];exact Own.snoc hown2)
      have HC3 : Hid (w3.heap[gb]?=some (.cells cur 53 (0,0))):=lH (by
       rw [hgx.block gb (by simp;omega) (HO.out.apart HCr.out),Below.heap_alloc _ _ _ (by simp;omega),Below.heap_alloc _ _ _ hgr];exact HCr.out)
      clear hown2 hbA hgx
      go_wp2
      go_roundw
      case rel=>exact ⟨k+1,by omega,by go_num,hb3,HO3.out,HC3.out⟩
      case measure=>simp [intOf];omega
     ·have HE:=lH he
      have hd : decide (0<z)=false:=by simpa using he
      clear he
      have HO3 : Hid (Own w.heap.size (toL g (ss.take (k+1))) u3 (wr.alloc (.cells #[.int .i64 x,.int .i64 y] 53))):=lH (by rw [HTk.out,if_neg HE.out,List.append_nil];exact HO.out.alloc _)
      have HC3 : Hid ((wr.alloc (.cells #[.int .i64 x,.int .i64 y] 53)).heap[gb]?=some (.cells cur 53 (0,0))):=lH (by
       rw [Below.heap_alloc _ _ _ hgr];exact HCr.out)
      go_wp2
      go_roundw
      case rel=>exact ⟨k+1,by omega,by go_num,hb.alloc hsz _,HO3.out,HC3.out⟩
      case measure=>simp [intOf];omega
    ·obtain rfl : k=m:=by omega
     have e1 : ss.take k=ss:=by rw [HMn.out,List.take_length]
     have ho:=HO.out
     rw [e1] at ho
     have HZ:=lH ho
     clear ho e1
     go_wp2
     go_ret
     exact ⟨_,toL g ss,rfl,HZ.out.hl,HL.out.1,HL.out.2.2,hb⟩
end Go.Proofs.YthecinmekoaphaaGreat.Ac
namespace Go.Proofs.YthecinmekoaphaaGreat.Ac
open Go.RowKit Go.Maps
open Rw
open Sl
open Mo (may may_iff addS addE subS subE add_any)
variable {lo : Nat}
theorem wfMay {a : Int} (h : may a=true) : (Lit.int .i64 a).wf=true:=Go.WalkArith.wf_i64 (by have:=may_iff.1 h;omega)
def chE (E : Int→Int→Int) (l : List Hd) (p : Pu) (n : Int) : Int:=if right l&&pmay p&&may n then E (get l p) n else 1
def chL (S E : Int→Int→Int) (l : List Hd) (p : Pu) (n : Int) : List Hd:=if chE E l p n=0 then set l p (S (get l p) n) else l
theorem change_any (S E : Int→Int→Int) (f : Nat) (eg : ∀ args w,(callFunc f args).run Tryz.prog w=.ok (.enter f args) w)
  (hop : ∀ a n w,(Lit.int .i64 a).wf=true→(Lit.int .i64 n).wf=true→Calls Tryz.prog f #[.int .i64 a,.int .i64 n] w fun e w'=>e=.returned (.tuple #[.int .i64 (S a n),.int .i64 (E a n)])∧Below w.heap.size w w')
  (hS : ∀ a n,may a=true→may n=true→E a n=0→may (S a n)=true)
  (l : List Hd) (v : Value) (p q n : Int) (w : World) (h : HL lo l v w) (hm : l.length≤1000000) :
  Calls Tryz.prog 65 #[v,.agg #[.int .i64 p,.int .i64 q],.int .i64 n,.func (.func f) #[] #[]] w (Post2 (HL lo (chL S E l (p,q) n)) (chE E l (p,q) n) w):=by
 have HM:=lH hm
 have HM':=lH hm
 have HH:=lH h
 have HP0:=lH hop
 have HS:=lH hS
 clear hm h hop hS
 obtain ⟨W,hW⟩ : ∃ W,W=w.alloc (.cells #[.int .i64 p,.int .i64 q] 53):=⟨_,rfl⟩
 have k0 : W.cell? ⟨w.heap.size,0,none⟩=some (.int .i64 p):=by rw [hW];simp [go_sem]
 have k1 : W.cell? ⟨w.heap.size,1,none⟩=some (.int .i64 q):=by rw [hW];simp [go_sem]
 have hbW : Below w.heap.size w W:=hW ▸ below1 w _
 have hz0 : w.heap.size<W.heap.size:=by rw [hW];simp
 have HW:=lH hW
 have HF : Hid (∀ u,Below W.heap.size W u→u.cell? ⟨w.heap.size,0,none⟩=some (.int .i64 p)∧u.cell? ⟨w.heap.size,1,none⟩=some (.int .i64 q)∧w.heap.size<u.heap.size):=lH fun u hu =>
  ⟨by rw [hu.cell (p:=⟨w.heap.size,0,none⟩) hz0];exact k0,by rw [hu.cell (p:=⟨w.heap.size,1,none⟩) hz0];exact k1,Nat.lt_of_lt_of_le hz0 hu.size⟩
 have HH1:=lH (SL.stays enc 3 55 l v w _ HH.out hbW)
 clear hW k0 k1 hz0
 cases hr : right l
 ·have HR:=lH hr
  have hE : chE E l (p,q) n=1:=by unfold chE;rw [hr];rfl
  have HL0 : Hid (chL S E l (p,q) n=l):=lH (by unfold chL;rw [hE,if_neg (by decide)])
  have HE:=lH hE
  clear hE hr
  rw [HE.out,HL0.out]
  go_enter Tryz.func65,Tryz.ntmps65
  go_wp2_with fail
  rw [← HW.out]
  refine (right_is HR _ HH1.out HM'.out).mono ?_
  rintro e w1 ⟨rfl,hb1⟩
  have HV:=lH (SL.stays enc 3 55 l v _ _ HH1.out hb1)
  go_wp2
  go_ret2
  exact ⟨_,rfl,nx hbW hb1,HV.out⟩
 ·have HR:=lH hr
  cases hp : pmay (p,q)
  ·have HP:=lH hp
   have hE : chE E l (p,q) n=1:=by unfold chE;rw [hr,hp];rfl
   have HL0 : Hid (chL S E l (p,q) n=l):=lH (by unfold chL;rw [hE,if_neg (by decide)])
   have HE:=lH hE
   clear hE hr hp
   rw [HE.out,HL0.out]
   go_enter Tryz.func65,Tryz.ntmps65
   go_wp2_with fail
   rw [← HW.out]
   refine (right_is HR _ HH1.out HM'.out).mono ?_
   rintro e w1 ⟨rfl,hb1⟩
   obtain ⟨l0,l1,hz1⟩:=HF.out _ hb1
   go_wp2_with fail
   refine (purse_is HP _).mono ?_
   rintro e w2 ⟨rfl,hb2⟩
   have HV:=lH (SL.stays enc 3 55 l v _ _ HH1.out (nx hb1 hb2))
   go_wp2
   go_ret2
   exact ⟨_,rfl,nx hbW (nx hb1 hb2),HV.out⟩
  ·have HP:=lH hp
   cases hn : may n
   ·have HN:=lH hn
    have hE : chE E l (p,q) n=1:=by unfold chE;rw [hr,hp,hn];rfl
    have HL0 : Hid (chL S E l (p,q) n=l):=lH (by unfold chL;rw [hE,if_neg (by decide)])
    have HE:=lH hE
    clear hE hr hp hn
    rw [HE.out,HL0.out]
    go_enter Tryz.func65,Tryz.ntmps65
    go_wp2_with fail
    rw [← HW.out]
    refine (right_is HR _ HH1.out HM'.out).mono ?_
    rintro e w1 ⟨rfl,hb1⟩
    obtain ⟨l0,l1,hz1⟩:=HF.out _ hb1
    go_wp2_with fail
    refine (purse_is HP _).mono ?_
    rintro e w2 ⟨rfl,hb2⟩
    go_wp2_with fail
    refine (may_is HN _).mono ?_
    rintro e w' ⟨rfl,rfl⟩
    have HV:=lH (SL.stays enc 3 55 l v _ _ HH1.out (nx hb1 hb2))
    go_wp2
    go_ret2
    exact ⟨_,rfl,nx hbW (nx hb1 hb2),HV.out⟩
   ·have HN:=lH hn
    have hR:=right_iff.1 hr
    have gp:=get_pos (p:=(p,q)) hR
    have hmg : may (get l (p,q))=true:=may_iff.2 ⟨gp.1,gp.2.1⟩
    have hE : chE E l (p,q) n=E (get l (p,q)) n:=by unfold chE;rw [hr,hp,hn];rfl
    have HE:=lH hE
    obtain ⟨a,ha⟩ : ∃ a,get l (p,q)=a:=⟨_,rfl⟩
    have HAg:=lH ha
    obtain ⟨s,hs⟩ : ∃ s,S a n=s:=⟨_,rfl⟩
    obtain ⟨x,hx⟩ : ∃ x,E a n=x:=⟨_,rfl⟩
    have HC : Hid (∀ w,Calls Tryz.prog f #[.int .i64 a,.int .i64 n] w fun e w'=>e=.returned (.tuple #[.int .i64 s,.int .i64 x])∧Below w.heap.size w w'):=lH fun w=>by
     rw [← hs,← hx];exact HP0.out a n w (wfMay (ha ▸ hmg)) (wfMay hn)
    have HRt:=lH hR
    rw [ha] at hE hmg
    rw [hx] at hE
    have hld : chL S E l (p,q) n=if x=0 then set l (p,q) s else l:=by unfold chL;rw [hE,ha,hs]
    have HLd:=lH hld
    clear hld
    have hmn:=hn
    have HSm : Hid (x=0→may s=true):=lH fun e=>by rw [← hs];exact HS.out a n hmg hmn (hx.trans e)
    rw [hE]
    clear hE hr hp hn hmn hR gp hmg ha hs hx
    go_enter Tryz.func65,Tryz.ntmps65
    go_wp2_with fail
    rw [← HW.out]
    refine (right_is HR _ HH1.out HM'.out).mono ?_
    rintro e w1 ⟨rfl,hb1⟩
    obtain ⟨l0,l1,hz1⟩:=HF.out _ hb1
    go_wp2_with fail
    refine (purse_is HP _).mono ?_
    rintro e w2 ⟨rfl,hb2⟩
    go_wp2_with fail
    refine (may_is HN _).mono ?_
    rintro e w' ⟨rfl,rfl⟩
    clear l0 l1 hz1
    have hb2:=nx hb1 hb2
    have HH2:=lH (SL.stays enc 3 55 l v _ _ HH1.out hb2)
    have HB:=lH (byPurse_any l v _ HH2.out HRt.out HM'.out)
    clear hb1
    go_wp2_with fail
    refine HB.out.mono ?_
    rintro e w3 ⟨b,nn,D,rfl,hnn,hM,hbb,hb3⟩
    have hszb : W.heap.size≤w2.heap.size:=hb2.size
    have hb3:=nx hb2 hb3
    obtain ⟨l0,l1,hz1⟩:=HF.out _ hb3
    have hlk:=MQ.look hM HP.out
    rw [HAg.out] at hlk
    have HMq:=lH hM
    have HNn:=lH hnn
    clear hM hnn hb2
    go_wp2_with fail
    refine (HC.out _).mono ?_
    rintro e w4 ⟨rfl,hb4⟩
    clear hlk l0 l1 hz1
    have hbx:=nx hb3 hb4
    by_cases he : x=0
    ·have HZ:=lH he
     have hd : (x != 0)=false:=by simpa using he
     clear he
     obtain ⟨l0,l1,hz1⟩:=HF.out _ hbx
     have hms:=HSm.out HZ.out
     obtain ⟨D2,w5,hput,hM5,hgr⟩:=MQ.put (HMq.out.stays hb4) (g:=fun u=>if u=(p,q) then s else get l u) (by have:=right_512 HRt.out;have:=HNn.out;unfold maxLen;omega) HP.out (c:=s) (wfMay hms) (if_pos rfl) (fun u hu=>if_neg hu)
     have hb5 : Below W.heap.size W w5:=hbx.grown hgr hbx.size (fun j hj=>by cases hj;exact Nat.le_trans hszb hbb)
     have hh:=holdings_any (lo:=lo) b (nn+1) D2 (fun u=>if u=(p,q) then s else get l u) w5 hM5 (by have:=right_512 HRt.out;have:=HNn.out;omega) (fun u hu=>by
      by_cases e : u=(p,q)
      ·rw [if_pos e];exact may_iff.1 hms
      ·rw [if_neg e];have g:=get_pos (p:=u) HRt.out;exact ⟨g.1,g.2.1⟩)
     have HHd:=lH hh
     clear hh hM5 hgr
     go_wp2_with fail
     refine HHd.out.mono ?_
     rintro e w6 ⟨v6,L,rfl,hv6,hR6,hg6,hb6⟩
     have hbb6:=nx hb5 hb6
     have eL : L=set l (p,q) s:=set_unique HRt.out HP.out (may_iff.1 hms).1 (may_iff.1 hms).2 hR6 fun u=>by
      rw [hg6 u]
      by_cases e : u=(p,q)
      ·subst e;rw [if_pos HP.out]
      ·by_cases e2 : pmay u=true
       ·rw [if_pos e2]
       ·rw [if_neg e2,if_neg e]
        have g:=get_pos (p:=u) HRt.out
        rcases Int.lt_or_eq_of_le g.1 with h1 | h1
        ·exact absurd (g.2.2 (by omega)) e2
        ·exact h1
     have HV : Hid (HL lo (chL S E l (p,q) n) v6 w6):=lH (by rw [HLd.out,if_pos HZ.out,← eL];exact hv6)
     clear hv6 hR6 hg6 eL hms
     go_wp2
     go_ret2
     exact ⟨v6,by rw [HZ.out];rfl,nx hbW hbb6,HV.out⟩
    ·have HZ:=lH he
     have hd : (x != 0)=true:=by simpa using he
     clear he
     have HV : Hid (HL lo (chL S E l (p,q) n) v w4):=lH (by rw [HLd.out,if_neg HZ.out];exact SL.stays enc 3 55 l v _ _ HH1.out hbx)
     go_wp2
     go_ret2
     exact ⟨_,rfl,nx hbW hbx,HV.out⟩
theorem add_may (a n : Int) (ha : may a=true) (hn : may n=true) (h : addE a n=0) : may (addS a n)=true:=by
 have h1:=may_iff.1 ha
 have h2:=may_iff.1 hn
 unfold addE addS Mo.add2 at *
 rw [if_pos ⟨ha,hn⟩] at h ⊢
 split at h
 ·cases h
 ·rename_i hc
  rw [if_neg hc]
  exact may_iff.2 (by simp only;omega)
theorem sub_may (a n : Int) (ha : may a=true) (hn : may n=true) (h : subE a n=0) : may (subS a n)=true:=by
 have h1:=may_iff.1 ha
 have h2:=may_iff.1 hn
 unfold subE subS Mo.sub2 at *
 rw [if_pos ⟨ha,hn⟩] at h ⊢
 split at h
 ·cases h
 ·rename_i hc
  rw [if_neg hc]
  exact may_iff.2 (by simp only;omega)
theorem give_any (l : List Hd) (v : Value) (p q n : Int) (w : World) (h : HL lo l v w) (hm : l.length≤1000000) :
  Calls Tryz.prog 34 #[v,.agg #[.int .i64 p,.int .i64 q],.int .i64 n] w (Post2 (HL lo (giveL l (p,q) n)) (giveE l (p,q) n) w):=by
 have HH:=lH (SL.stays enc 3 55 l v w _ h (below1 w (.cells #[.int .i64 p,.int .i64 q] 53)))
 have HM:=lH hm
 clear h hm
 obtain ⟨x,hE⟩ : ∃ x,giveE l (p,q) n=x:=⟨_,rfl⟩
 have HC : ∀ w,HL lo l v w→Calls Tryz.prog 65 #[v,.agg #[.int .i64 p,.int .i64 q],.int .i64 n,.func (.func 66) #[] #[]] w (Post2 (HL lo (giveL l (p,q) n)) x w):=fun w h=>by
  rw [← hE];exact change_any addS addE _ (enters_of Tryz.func66 (by kernel_rfl) rfl) (fun a n w ha hn=>add_any a n ha hn w) add_may l v p q n w h HM.out
 have HC1:=lH HC
 rw [hE]
 clear hE HC
 go_enter Tryz.func34,Tryz.ntmps34
 go_wp2_with fail
 refine (HC1.out _ HH.out).mono ?_
 rintro e w1 ⟨v1,rfl,hb1,hv1⟩
 have HV:=lH hv1
 clear hv1
 go_wp2
 go_ret2
 exact ⟨_,rfl,nx (below1 _ _) hb1,HV.out⟩
theorem take_any (l : List Hd) (v : Value) (p q n : Int) (w : World) (h : HL lo l v w) (hm : l.length≤1000000) :
  Calls Tryz.prog 92 #[v,.agg #[.int .i64 p,.int .i64 q],.int .i64 n] w (Post2 (HL lo (takeL l (p,q) n)) (takeE l (p,q) n) w):=by
 have HH:=lH (SL.stays enc 3 55 l v w _ h (below1 w (.cells #[.int .i64 p,.int .i64 q] 53)))
 have HM:=lH hm
 clear h hm
 obtain ⟨x,hE⟩ : ∃ x,takeE l (p,q) n=x:=⟨_,rfl⟩
 have HC : ∀ w,HL lo l v w→Calls Tryz.prog 65 #[v,.agg #[.int .i64 p,.int .i64 q],.int .i64 n,.func (.func 124) #[] #[]] w (Post2 (HL lo (takeL l (p,q) n)) x w):=fun w h=>by
  rw [← hE];exact change_any subS subE _ (enters_of Tryz.func124 (by kernel_rfl) rfl) (fun a n w ha hn=>Mo.sub_any a n ha hn w) sub_may l v p q n w h HM.out
 have HC1:=lH HC
 rw [hE]
 clear hE HC
 go_enter Tryz.func92,Tryz.ntmps92
 go_wp2_with fail
 refine (HC1.out _ HH.out).mono ?_
 rintro e w1 ⟨v1,rfl,hb1,hv1⟩
 have HV:=lH hv1
 clear hv1
 go_wp2
 go_ret2
 exact ⟨_,rfl,nx (below1 _ _) hb1,HV.out⟩
end Go.Proofs.YthecinmekoaphaaGreat.Ac
