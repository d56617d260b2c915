/- The landed package account: which purses may be, Get, Of. -/
import Derived.Test.YtjhocpcpkemcaaaGreatQeZZ
import Derived.Test.YtjhocpcpkemcaaaGreatQeAL
import Derived.OrdersHeld
import Derived.KernelRfl
import Derived.Below
import Derived.Sort.Grow
import Derived.Deep.Draws
set_option linter.unusedVariables false
set_option maxRecDepth 16000
set_option maxHeartbeats 32000000
namespace Go.Proofs.YtjhocpcpkemcaaaGreat.Ac
open Go.RowKit
open Rw
open Sl
variable {lo:Nat}
theorem purse_any (a b:Int) (w:World) :
  Calls Tryz.prog 102 #[.agg #[.int .i64 a,.int .i64 b]] w fun e w'=>e=.returned (.bool (pmay (a,b)))∧Below w.heap.size w w':=by
 by_cases h0:0≤a
 ·by_cases h1:a<64
  ·by_cases h2:0≤b
   ·by_cases h3:b<8
    ·have H:Hid (pmay (a,b)=true):=lH (pmay_iff.2 ⟨h0,h1,h2,h3⟩)
     go_enter Tryz.func102,Tryz.ntmps102
     go_wp2
     go_ret
     exact ⟨by rw [H.out];simp,below1 _ _⟩
    ·have H:Hid (pmay (a,b)=false):=lH (by unfold pmay;simp;omega)
     have hd:decide (b<8)=false:=by simp;omega
     go_enter Tryz.func102,Tryz.ntmps102
     go_wp2
     go_ret
     exact ⟨by rw [H.out];simp,below1 _ _⟩
   ·have H:Hid (pmay (a,b)=false):=lH (by unfold pmay;simp;omega)
    have hd:decide (0≤b)=false:=by simp;omega
    clear h2
    go_enter Tryz.func102,Tryz.ntmps102
    go_wp2
    go_ret
    exact ⟨by rw [H.out];simp,below1 _ _⟩
  ·have H:Hid (pmay (a,b)=false):=lH (by unfold pmay;simp;omega)
   have hd:decide (a<64)=false:=by simp;omega
   clear h1
   go_enter Tryz.func102,Tryz.ntmps102
   go_wp2
   go_ret
   exact ⟨by rw [H.out];simp,below1 _ _⟩
 ·have H:Hid (pmay (a,b)=false):=lH (by unfold pmay;simp;omega)
  have hd:decide (0≤a)=false:=by simp;omega
  clear h0
  go_enter Tryz.func102,Tryz.ntmps102
  go_wp2
  go_ret
  exact ⟨by rw [H.out];simp,below1 _ _⟩
theorem own_made (w:World):Own w.heap.size [] (.slice (some ⟨w.heap.size,0,none⟩) 0 0) (w.alloc (.cells #[] 52)) :=
 World.ownsRow_made (base:=w.heap.size) (e:=52) (size:=3) w #[] 0 (Nat.le_refl _) (by unfold maxLen;omega) rfl
theorem purse_is {a b:Int} {r:Bool} (h:Hid (pmay (a,b)=r)) (w:World) :
  Calls Tryz.prog 102 #[.agg #[.int .i64 a,.int .i64 b]] w fun e w'=>e=.returned (.bool r)∧Below w.heap.size w w':=by
 rw [← h.out];exact purse_any a b w
theorem get_any (l:List Hd) (v:Value) (p q:Int) (w:World) (h:HL lo l v w) (hm:l.length≤1000000) :
  Calls Tryz.prog 24 #[v,.agg #[.int .i64 p,.int .i64 q]] w fun e w'=>e=.returned (.int .i64 (get l (p,q)))∧Below w.heap.size w w':=by
 rcases h.cases with ⟨rfl,a,c,rfl⟩ | ⟨hne,b,off,c,rfl,hat⟩
 ·clear h
  go_enter Tryz.func24,Tryz.ntmps24
  go_wp2
  go_loopw [9] (fun i wr=>i=.int .i64 0∧Below w.heap.size w wr) (fun i _=>0)
  case atStart=>exact ⟨rfl,below1 _ _⟩
  case round =>
   obtain ⟨rfl,hb⟩:=hrel
   go_wp2
   go_ret
   exact ⟨rfl,hb⟩
 ·have hbw:=hat.1
  have HA:=lH hat
  obtain ⟨n,hn⟩:∃ n,n=l.length:=⟨_,rfl⟩
  rw [← hn] at hm ⊢
  have HN:=lH hn
  clear h hat hn hne
  go_enter Tryz.func24,Tryz.ntmps24
  go_wp2
  obtain ⟨W,hW⟩:∃ W,W=w.alloc (.cells #[.int .i64 p,.int .i64 q] 50):=⟨_,rfl⟩
  have k0:W.cell? ⟨w.heap.size,0,none⟩=some (.int .i64 p):=by rw [hW];simp [go_sem]
  have k1:W.cell? ⟨w.heap.size,1,none⟩=some (.int .i64 q):=by rw [hW];simp [go_sem]
  have hb0:Below w.heap.size w W:=hW ▸ below1 w _
  have hz:w.heap.size<W.heap.size:=by rw [hW];simp
  have hzb:b<W.heap.size:=by omega
  have HW:=lH (HA.out.stays enc 3 hb0)
  rw [← hW]
  clear hW HA
  go_loopw [9] (fun i wr=>∃ k:Nat,k≤n∧i=.int .i64 k∧Below W.heap.size W wr∧get (l.drop k) (p,q)=get l (p,q)) (fun i _=>n - (intOf i).toNat)
  case atStart=>exact ⟨0,Nat.zero_le _,rfl,Below.refl _ _,rfl⟩
  case round =>
   obtain ⟨k,hk,rfl,hb,hrest⟩:=hrel
   have HR:=lH hrest
   clear hrest
   by_cases hlt:k<n
   ·have hlt2:(k:Int)<n:=by omega
    have hkl:k<l.length:=by rw [← HN.out];exact hlt
    obtain ⟨⟨x,y,z⟩,hx⟩:∃ x,l[k]=x:=⟨_,rfl⟩
    have hc:=at3 HW.out k hkl
    have hg:=get_drop hkl (p,q)
    rw [hx] at hc hg
    simp only at hc
    obtain ⟨q0,q1,q2⟩:=hc
    obtain ⟨c1,f1,r1,p1⟩:=bcell hb
    have hzw:w.heap.size<wr.heap.size:=by have:=hb.size;omega
    have HG:Hid (get (l.drop k) (p,q)=if eqP (x,y) (p,q)=true then z else get (l.drop (k+1)) (p,q)):=lH (by rw [hg];simp only [eqP_iff];rfl)
    clear hg hx
    cases he:eqP (x,y) (p,q)
    ·rw [he] at HG
     go_wp2
     go_roundw
     case rel=>exact ⟨k+1,by omega,by go_num,nx hb (below1 _ _),by rw [← HR.out,HG.out];rfl⟩
     case measure=>simp [intOf];omega
    ·rw [he] at HG
     go_wp2
     go_ret
     exact ⟨ret_int (by rw [← HR.out,HG.out];rfl),nx hb0 (nx hb (below1 _ _))⟩
   ·obtain rfl:k=n:=by omega
    have hz0:get l (p,q)=0:=by rw [← HR.out,HN.out,List.drop_length];rfl
    have HZ:=lH hz0
    clear hz0
    go_wp2
    go_ret
    exact ⟨ret_int HZ.out.symm,nx hb0 hb⟩
theorem of_any (l:List Hd) (v:Value) (a:Int) (w:World) (h:HL lo l v w) (hm:l.length≤1000000) :
  Calls Tryz.prog 72 #[v,.int .i64 a] w (Post (HL lo (ofL l a)) w):=by
 rcases h.cases with ⟨rfl,p,c,rfl⟩ | ⟨hne,b,off,c,rfl,hat⟩
 ·clear h
  go_enter Tryz.func72,Tryz.ntmps72
  go_wp2
  go_loopw [5,11] (fun t i wr=>i=.int .i64 0∧t=.slice (some ⟨w.heap.size,0,none⟩) 0 0∧Below w.heap.size w wr) (fun _ i _=>0)
  case atStart=>exact ⟨rfl,rfl,below1 _ _⟩
  case round =>
   obtain ⟨rfl,rfl,hb⟩:=hrel
   go_wp2
   go_ret
   exact ⟨_,rfl,hb,SL.empty enc 3 52 _ _ _⟩
 ·have HA:=lH hat
  obtain ⟨i0,hi,hz0,hz1,hz2⟩:=info_parts infoH
  have hbb:b<w.heap.size:=hat.1
  obtain ⟨n,hn⟩:∃ n,n=l.length:=⟨_,rfl⟩
  rw [← hn] at hm ⊢
  have HN:=lH hn
  clear h hat hn hne
  have HMd:Hid (Own w.heap.size [] (.slice (some ⟨w.heap.size,0,none⟩) 0 0) (w.alloc (.cells #[] 52))):=lH (own_made w)
  go_enter Tryz.func72,Tryz.ntmps72
  go_wp2
  go_loopw [5,11] (fun t i wr=>∃ k:Nat,k≤n∧i=.int .i64 k∧Below w.heap.size w wr∧Own w.heap.size (ofL (l.take k) a) t wr) (fun _ i _=>n - (intOf i).toNat)
  case atStart=>exact ⟨0,Nat.zero_le _,rfl,below1 _ _,HMd.out⟩
  case round =>
   obtain ⟨k,hk,rfl,hb,hown⟩:=hrel
   have HO:=lH hown
   clear hown
   by_cases hlt:k<n
   ·have hlt2:(k:Int)<n:=by omega
    have hkl:k<l.length:=by rw [← HN.out];exact hlt
    obtain ⟨⟨x,y,z⟩,hx⟩:∃ x,l[k]=x:=⟨_,rfl⟩
    have hc:=at3 HA.out k hkl
    have ht:=ofL_take hkl a
    rw [hx] at hc ht
    simp only at hc
    obtain ⟨q0,q1,q2⟩:=hc
    obtain ⟨c1,f1,r1,p1⟩:=bcell hb
    have HTk:Hid (ofL (l.take (k+1)) a=ofL (l.take k) a++(if x=a then [(x,y,z)] else [])):=lH ht
    clear hx ht
    by_cases he:x=a
    ·have HE:=lH he
     have hd:(x==a)=true:=by simpa using he
     clear he
     have hsz:=hb.size
     have hlen:=ofL_len (l.take k) a
     have hlen2:(l.take k).length≤k:=List.length_take_le _ _
     have hbA:=(hb.alloc (by omega) (.cells #[.int .i64 x,.int .i64 y,.int .i64 z] 52)).alloc (by simp;omega) (.cells #[.int .i64 x,.int .i64 y,.int .i64 z] 52)
     go_wp2_with (at_builtin;refine wpList_append_own _ rfl _ _ 24 rfl (w.heap.size) 52 i0 (.agg #[.int .i64 0,.int .i64 0,.int .i64 0]) 3 24 Tryz.underlying24 hi hz0 hz1 hz2 rfl (by decide) _ _ _ rfl (HO.out.alloc _ |>.alloc _) (⟨wr.heap.size+1,0,none⟩) 1 1 (enc (x,y,z)) rfl rfl ?c1 ?c2 ?c3 ?c4 ?c5 ?_)
     case c1=>intro j u hj;rcases j with _ | _ | _ | _ | _ | _<;>simp [enc] at hj<;>subst hj<;>simp [Addr.add,go_sem]
     case c2=>intro u hu;simp [enc] at hu;rcases hu with rfl | rfl | rfl<;>rfl
     case c3=>unfold maxLen;omega
     case c4=>omega
     case c5=>have:=(hbA).size;simp at this ⊢;omega
     intro v2 w2 hown2 hg_ _
     have hb2:=(hbA).grown hg_ (by have:=(hbA).size;simp at this ⊢;omega) (fun k_ hk_=>((HO.out).lt k_ hk_).1)
     clear hg_
     have HO2:Hid (Own w.heap.size (ofL (l.take (k+1)) a) v2 w2):=lH (by rw [HTk.out,if_pos HE.out];exact Own.snoc hown2)
     clear hown2 hbA
     go_wp2
     go_roundw
     case rel=>exact ⟨k+1,by omega,by go_num,hb2,HO2.out⟩
     case measure=>simp [intOf];omega
    ·have HE:=lH he
     have hd:(x==a)=false:=by simpa using he
     clear he
     have HO2:Hid (Own w.heap.size (ofL (l.take (k+1)) a) u5 (wr.alloc (.cells #[.int .i64 x,.int .i64 y,.int .i64 z] 52))):=lH (by rw [HTk.out,if_neg HE.out,List.append_nil];exact HO.out.alloc _)
     have hsz:=hb.size
     go_wp2
     go_roundw
     case rel=>exact ⟨k+1,by omega,by go_num,hb.alloc hsz _,HO2.out⟩
     case measure=>simp [intOf];omega
   ·obtain rfl:k=n:=by omega
    have HZ:Hid (Own w.heap.size (ofL l a) u5 wr):=lH (by have:=HO.out;rwa [HN.out,List.take_length] at this)
    go_wp2
    go_ret
    exact ⟨_,rfl,hb,HZ.out.hl⟩
end Go.Proofs.YtjhocpcpkemcaaaGreat.Ac
namespace Go.Proofs.YtjhocpcpkemcaaaGreat.Ac
open Go.RowKit
open Rw
open Sl
def cmpI (a b:Int):Int:=if a<b then -1 else if b<a then 1 else 0
def orI (a b:Int):Int:=if a=0 then b else a
def cmpP (a b:Pu):Int:=orI (cmpI a.1 b.1) (cmpI a.2 b.2)
theorem cmpP_lt (a b:Pu):decide (cmpP a b<0)=pless a b:=by
 rw [Bool.eq_iff_iff,decide_eq_true_eq,pless_iff]
 unfold cmpP orI cmpI
 split<;>(split at *<;>(try split at *)<;>(try split)<;>omega)
theorem nan_any (a:Int) (w:World):Calls Tryz.prog 158 #[.int .i64 a] w fun e w'=>e=.returned (.bool false)∧w=w':=by
 go_enter Tryz.func158,Tryz.ntmps158
 go_wp2
 go_ret
 exact ⟨by simp,rfl⟩
theorem compare_any (a b:Int) (w:World):Calls Tryz.prog 129 #[.int .i64 a,.int .i64 b] w fun e w'=>e=.returned (.int .i64 (cmpI a b))∧w=w':=by
 by_cases h1:a<b
 ·have H:Hid (cmpI a b=-1):=lH (if_pos h1)
  go_enter Tryz.func129,Tryz.ntmps129
  go_wp2_with fail
  refine (nan_any _ _).mono ?_
  rintro e w' ⟨rfl,rfl⟩
  go_wp2_with fail
  refine (nan_any _ _).mono ?_
  rintro e w' ⟨rfl,rfl⟩
  go_wp2
  go_ret
  exact ⟨ret_int H.out.symm,rfl⟩
 ·by_cases h2:b<a
  ·have H:Hid (cmpI a b=1):=lH (by unfold cmpI;rw [if_neg h1,if_pos h2])
   go_enter Tryz.func129,Tryz.ntmps129
   go_wp2_with fail
   refine (nan_any _ _).mono ?_
   rintro e w' ⟨rfl,rfl⟩
   go_wp2_with fail
   refine (nan_any _ _).mono ?_
   rintro e w' ⟨rfl,rfl⟩
   go_wp2
   go_ret
   exact ⟨ret_int H.out.symm,rfl⟩
  ·have H:Hid (cmpI a b=0):=lH (by unfold cmpI;rw [if_neg h1,if_neg h2])
   go_enter Tryz.func129,Tryz.ntmps129
   go_wp2_with fail
   refine (nan_any _ _).mono ?_
   rintro e w' ⟨rfl,rfl⟩
   go_wp2_with fail
   refine (nan_any _ _).mono ?_
   rintro e w' ⟨rfl,rfl⟩
   go_wp2
   go_ret
   exact ⟨ret_int H.out.symm,rfl⟩
theorem or_any (x y:Int) (b c:Nat) (w:World) (k0:w.cell? ⟨b,0,none⟩=some (.int .i64 x)) (k1:w.cell? ⟨b,1,none⟩=some (.int .i64 y)) :
  Calls Tryz.prog 139 #[.slice (some ⟨b,0,none⟩) 2 c] w fun e w'=>e=.returned (.int .i64 (orI x y))∧w=w':=by
 obtain ⟨r,hr⟩:∃ r,orI x y=r:=⟨_,rfl⟩
 rw [hr]
 have HR:=lH hr
 clear hr
 go_enter Tryz.func139,Tryz.ntmps139
 go_wp2
 go_loop [8] (fun i=>∃ k:Nat,k≤2∧i=.int .i64 k∧(1≤k→x=0)∧(k=2→y=0)) (fun i=>2 - (intOf i).toNat)
 case atStart=>exact ⟨0,by omega,rfl,by omega,by omega⟩
 case round =>
  obtain ⟨k,hk,rfl,hx,hy⟩:=hrel
  have HX:=lH hx
  have HY:=lH hy
  clear hx hy
  match k,hk,HX,HY with
  | 0,_,HX,HY =>
   by_cases e:x=0
   ·have hd:(x != 0)=false:=by simpa using e
    have HE:=lH e
    clear e
    go_wp2
    go_round
    case rel=>exact ⟨1,by omega,by go_num,fun _=>HE.out,by omega⟩
    case measure=>simp [intOf]
   ·have hd:(x != 0)=true:=by simpa using e
    have HE:Hid (r=x):=lH (by rw [← HR.out];unfold orI;rw [if_neg e])
    clear e
    go_wp2
    go_ret
    exact ⟨ret_int HE.out.symm,rfl⟩
  | 1,_,HX,HY =>
   have HE:Hid (r=y):=lH (by rw [← HR.out];unfold orI;rw [if_pos (HX.out (by omega))])
   by_cases e:y=0
   ·have hd:(y != 0)=false:=by simpa using e
    have HZ:=lH e
    clear e
    go_wp2
    go_round
    case rel=>exact ⟨2,by omega,by go_num,fun _=>HX.out (by omega),fun _=>HZ.out⟩
    case measure=>simp [intOf]
   ·have hd:(y != 0)=true:=by simpa using e
    clear e
    go_wp2
    go_ret
    exact ⟨ret_int HE.out.symm,rfl⟩
  | 2,_,HX,HY =>
   have HE:Hid (r=0):=lH (by rw [← HR.out];unfold orI;rw [if_pos (HX.out (by omega)),HY.out rfl])
   go_wp2
   go_ret
   exact ⟨ret_int HE.out.symm,rfl⟩
end Go.Proofs.YtjhocpcpkemcaaaGreat.Ac
namespace Go.Proofs.YtjhocpcpkemcaaaGreat.Re
open Go.RowKit
open Go.Sort (grow grow_grow alloc_eq_grow drew_grow)
def Ext (w w':World):Prop:=∃ q os,w'=grow (w.drewN q) os
theorem Ext.refl (w:World):Ext w w:=⟨0,#[],by simp [World.drewN]⟩
theorem drewN_grow (w:World) (os:Array Obj) (q:Nat):(grow w os).drewN q=grow (w.drewN q) os:=rfl
theorem drewN_drewN (w:World) (p q:Nat):(w.drewN p).drewN q=w.drewN (p+q):=by simp [World.drewN,Nat.add_assoc]
theorem Ext.trans {a b c:World} (h:Ext a b) (k:Ext b c):Ext a c:=by
 obtain ⟨p,os,rfl⟩:=h
 obtain ⟨q,os',rfl⟩:=k
 exact ⟨p+q,os++os',by rw [drewN_grow,drewN_drewN,grow_grow]⟩
theorem Ext.alloc (w:World) (o:Obj):Ext w (w.alloc o):=⟨0,#[o],by rw [alloc_eq_grow];rfl⟩
theorem Ext.drew {w w':World} (h:Ext w w'):Ext w w'.drew:=h.trans ⟨1,#[],by simp;rfl⟩
theorem Ext.below {w w':World} (h:Ext w w'):Below w.heap.size w w':=by
 obtain ⟨q,os,rfl⟩:=h
 exact ⟨rfl,rfl,rfl,by simp [World.drewN],fun k hk=>Go.Sort.heap_grow_old _ _ hk⟩
section
variable {P:Program} {ops:Array Oper} {Q:Exit→Act→World→Prop} {md:Region.Mode}
def Stays (S:World→Prop):Prop:=∀ w w',S w→Ext w w'→S w'
theorem Stays.ext (W:World):Stays (fun w=>Ext W w):=fun _ _ h k=>h.trans k
theorem Stays.and {S T:World→Prop} (h:Stays S) (k:Stays T):Stays (fun w=>S w∧T w):=fun w w' x b=>⟨h w w' x.1 b,k w w' x.2 b⟩
def Gives (P:Program) (w0:World) (v:Value):Result Next→Prop
 | .ok (.value u) w=>u=v∧Ext w0 w
 | .ok .skip w=>v=undef∧Ext w0 w
 | .ok (.enter f args) w=>Calls P f args w fun e w'=>e=.returned v∧Ext w0 w'
 | _=>False
def GivesIf (P:Program) (ops:Array Oper) (S:World→Prop) (o:Oper) (v:Value) (a:Act):Prop :=
 (Region.wanted o (yielded ops a.tmps)=true∧∀ w,S w→Gives P w v ((execOp a.eval o).run P w))∨(Region.wanted o (yielded ops a.tmps)=false∧v=undef)
theorem GivesIf.same {S:World→Prop} {o:Oper} {v:Value} {a a':Act} (h:GivesIf P ops S o v a) (he:execOp a'.eval o=execOp a.eval o) (hw:Region.wanted o (yielded ops a'.tmps)=Region.wanted o (yielded ops a.tmps)):GivesIf P ops S o v a':=by
 unfold GivesIf;rw [he,hw];exact h
theorem GivesIf.less {S S':World→Prop} {o:Oper} {v:Value} {a:Act} (h:GivesIf P ops S o v a) (k:∀ w,S' w→S w):GivesIf P ops S' o v a :=
 h.imp (fun ⟨x,y⟩=>⟨x,fun w hw=>y w (k w hw)⟩) id
theorem GivesIf.op {S:World→Prop} {i:Nat} {o:Oper} {v:Value} {a:Act} (hi:ops[i]?=some o) (h:GivesIf P ops S o v a) {K:Act→World→Prop} {w:World} (hS:S w) (hK:∀ w',Ext w w'→K (a.put o.dst v) w'):wpOp P ops Q i K a w:=by
 unfold wpOp
 simp only [hi]
 rcases h with ⟨hw,hg⟩ | ⟨hw,rfl⟩
 ·rw [if_pos hw]
  refine .inl ?_
  have g:=hg w hS
  unfold Oper.wp
  generalize (execOp a.eval o).run P w=r at g
  match r,g with
  | .ok (.value _) w',g=>obtain ⟨rfl,g2⟩:=g;exact hK _ g2
  | .ok .skip w',g=>obtain ⟨rfl,g2⟩:=g;exact hK _ g2
  | .ok (.enter f args) w',g =>
   refine Calls.mono g fun e w'' he=>?_
   obtain ⟨rfl,g2⟩:=he
   exact hK _ g2
 ·rw [if_neg (by rw [hw];decide)];exact hK _ (Ext.refl _)
theorem op_apart {j:Nat} {oi oj:Oper} {v:Value} (hj:ops[j]?=some oj) (hap:oi.apart ops oj=true) (hsj:∀ cs b,oj.op≠.select cs b) (hQ:∀ c a d v w,Q (.panic c) (Act.put a d v) w→Q (.panic c) a w)
  {K:Act→World→Prop} {a:Act} {w:World} (h:wpOp P ops Q j K (a.put oi.dst v) w) :
  wpOp P ops Q j (fun a' w'=>(∃ u ds,a'=({ a with defers:=ds }:Act).put oj.dst u)∧K (a'.put oi.dst v) w') a w:=by
 obtain ⟨h1,h2,_⟩:=Oper.apart_spec hap
 have turn:∀ (b:Act) (u:Value),(b.put oi.dst v).put oj.dst u=(b.put oj.dst u).put oi.dst v:=fun b u=>Act.put_comm b v u h2
 have wd:=wanted_put (ops:=ops) oj a oi.dst v h1
 have ex:=execOp_put (ops:=ops) oj hsj a oi.dst v h1
 simp only [wpOp,hj] at h ⊢
 rw [wd] at h
 by_cases hw:Region.wanted oj (yielded ops a.tmps)=true
 ·rw [if_pos hw] at h ⊢
  rcases h with h | ⟨k,l⟩
  ·refine .inl ?_
   unfold Oper.wp at h ⊢
   rw [ex] at h
   match (execOp a.eval oj).run P w,h with
   | .ok (.value u) w',h=>exact ⟨⟨u,a.defers,rfl⟩,turn a u ▸ h⟩
   | .ok .skip w',h=>exact ⟨⟨undef,a.defers,rfl⟩,turn a undef ▸ h⟩
   | .ok (.defer d) w',h =>
    refine ⟨⟨undef,d :: a.defers,rfl⟩,?_⟩
    rw [← turn,← Act.put_defers];exact h
   | .ok (.enter f args) w',h =>
    refine Calls.mono h fun e w'' he=>?_
    match e,he with
    | .returned u,he=>exact ⟨⟨u,a.defers,rfl⟩,turn a u ▸ he⟩
    | .panicked c,he=>exact hQ _ _ _ _ _ he
    | .outgrown,he=>exact he
   | .ok (.row row args) w',h=>exact Rows.mono h fun u w'' he=>⟨⟨u,a.defers,rfl⟩,turn a u ▸ he⟩
   | .halt (.panic u) w',h=>exact hQ _ _ _ _ _ h
  ·refine .inr ⟨?_,l⟩
   unfold Oper.asks at k ⊢
   rw [ex] at k;exact k
 ·rw [if_neg hw] at h ⊢
  exact ⟨⟨undef,a.defers,rfl⟩,turn a undef ▸ h⟩
def Any (P:Program) (md:Region.Mode) (ops:Array Oper) (Q:Exit→Act→World→Prop):Nat→Array Bool→Act→(World→Prop)→Prop
 | 0,listed,a,S=>Region.ready md ops listed=[]∧∀ w,S w→Q .normal a w
 | n+1,listed,a,S=>(Region.ready md ops listed=[]→∀ w,S w→Q .normal a w) ∧
  ∀ i∈Region.ready md ops listed,∀ w,S w→wpOp P ops Q i (fun a' w'=>∃ S':World→Prop,Stays S'∧(∀ u,S' u→S u)∧S' w'∧Any P md ops Q n (listed.setIfInBounds i true) a' S') a w
theorem Any.any:∀ (n:Nat) (listed:Array Bool) (a:Act) (S:World→Prop) (w:World),S w→Any P md ops Q n listed a S→wpAny P md ops Q n listed a w
 | 0,_,_,_,w,hS,h=>⟨h.1,h.2 w hS⟩
 | n+1,_,_,_,w,hS,h=>⟨fun e=>h.1 e w hS,fun i hi=>wpOp_mono (fun a' w' ⟨S',_,_,k1,k2⟩=>Any.any n _ a' S' w' k1 k2) (h.2 i hi w hS)⟩
theorem Any.first {i:Nat} {oi:Oper} {v:Value} (hi:ops[i]?=some oi) (hs:Region.noSelect ops=true) (hQ:∀ c a d v w,Q (.panic c) (Act.put a d v) w→Q (.panic c) a w) :
  ∀ (n:Nat) (listed:Array Bool) (a:Act) (S:World→Prop),Stays S→(∀ j oj,ops[j]?=some oj→j≠i→listed.getD j true=false→(∀ e∈oj.after,Region.binds md e=true→e.on≠i)→oi.apart ops oj=true) →
   i∈Region.ready md ops listed→GivesIf P ops S oi v a→Any P md ops Q n (listed.setIfInBounds i true) (a.put oi.dst v) S→Any P md ops Q (n+1) listed a S:=by
 have sel:=Region.noSelect_spec hs
 intro n
 induction n with
 | zero =>
  intro listed a S st _ hr hg H
  refine ⟨fun e=>absurd hr (by rw [e];exact List.not_mem_nil),fun j hj w hw=>?_⟩
  by_cases e:j=i
  ·subst e;exact hg.op hi hw fun w' hw'=>⟨S,st,fun _ x=>x,st _ _ hw hw',H⟩
  ·exact absurd (ready_mono hj e) (by rw [H.1];exact List.not_mem_nil)
 | succ n ih =>
  intro listed a S st hfree hr hg H
  refine ⟨fun e=>absurd hr (by rw [e];exact List.not_mem_nil),fun j hj w hw=>?_⟩
  by_cases e:j=i
  ·subst e;exact hg.op hi hw fun w' hw'=>⟨S,st,fun _ x=>x,st _ _ hw hw',H⟩
  ·obtain ⟨jun,oj,hoj,hall⟩:=mem_ready.1 hj
   have hno:∀ x∈oj.after,Region.binds md x=true→x.on≠i:=fun x hx hb hxi=>by
    have k1:=hall x hx hb
    have k0:=(mem_ready.1 hr).1
    rw [hxi] at k1
    by_cases hlt:i<listed.size
    ·rw [Array.getD_eq_getD_getElem?,Array.getElem?_eq_getElem hlt] at k0 k1
     rw [Option.getD_some] at k0 k1
     rw [k0] at k1;exact absurd k1 (by decide)
    ·rw [Array.getD_eq_getD_getElem?,Array.getElem?_eq_none (by omega)] at k1
     exact absurd k1 (by decide)
   have hap:=hfree j oj hoj e jun hno
   obtain ⟨_,_,h3⟩:=Oper.apart_spec hap
   refine wpOp_mono (fun a' w' k=>?_) (op_apart hoj hap (fun cs b=>sel j oj cs b hoj) hQ (H.2 j (ready_mono hj e) w hw))
   obtain ⟨⟨u,ds,rfl⟩,S',st',sub,kS,kA⟩:=k
   refine ⟨S',st',sub,kS,ih (listed.setIfInBounds j true) _ S' st' (fun k ok hk hki hun hno'=>?_) (ready_mono hr (Ne.symm e)) ?_ ?_⟩
   ·refine hfree k ok hk hki ?_ hno'
    by_cases hjk:j=k
    ·subst hjk;exact jun
    ·rw [getD_set_ne true hjk] at hun;exact hun
   ·refine (hg.less sub).same ?_ ?_
    ·rw [execOp_put (ops:=ops) oi (fun cs b=>sel i oi cs b hi) _ oj.dst u h3];rfl
    ·rw [wanted_put (ops:=ops) oi _ oj.dst u h3]
   ·rw [Array.setIfInBounds_comm _ _ e];exact kA
def Steps (P:Program) (md:Region.Mode) (ops:Array Oper) (Q:Exit→Act→World→Prop) (ord:List Nat) (listed:Array Bool) (a:Act) (S:World→Prop):Prop :=
 Region.noSelect ops=true→(∀ c a d v w,Q (.panic c) (Act.put a d v) w→Q (.panic c) a w)→Stays S→Any P md ops Q ord.length listed a S
def One (P:Program) (md:Region.Mode) (ops:Array Oper) (Q:Exit→Act→World→Prop) (i:Nat) (ord:List Nat) (listed:Array Bool) (a:Act) (S:World→Prop):Prop :=
 Region.noSelect ops=true→(∀ c a d v w,Q (.panic c) (Act.put a d v) w→Q (.panic c) a w)→Stays S →
  ∀ w,S w→wpOp P ops Q i (fun a' w'=>∃ S':World→Prop,Stays S'∧(∀ u,S' u→S u)∧S' w'∧Any P md ops Q ord.length (listed.setIfInBounds i true) a' S') a w
def nth:List Oper→Nat→Option Oper
 | [],_=>none
 | o :: _,0=>some o
 | _ :: l,n+1=>nth l n
theorem nth_eq (l:List Oper) (n:Nat):nth l n=l[n]?:=by
 induction l generalizing n with
 | nil=>rfl
 | cons o l ih=>cases n with
  | zero=>rfl
  | succ n=>rw [nth,ih];rfl
theorem nth_at {ops:Array Oper} {i:Nat} {o:Oper} (h:nth ops.toList i=some o):ops[i]?=some o:=by
 rw [nth_eq] at h;simpa using h
variable {i j:Nat} {o:Oper} {ord:List Nat} {listed:Array Bool} {a:Act} {S:World→Prop} {v:Value} {f:FuncId} {args:Array Value}
theorem Steps.nil (hr:Region.ready md ops listed=[]) (h:∀ w,S w→Q .normal a w):Steps P md ops Q [] listed a S:=fun _ _ _=>⟨hr,h⟩
def mayFirst (md:Region.Mode) (ops:Array Oper) (listed:Array Bool) (i:Nat):Bool:=Region.free md ops listed i&&(Region.ready md ops listed).contains i
theorem Steps.free (hi:nth ops.toList i=some o) (hf:mayFirst md ops listed i=true) (hg:GivesIf P ops S o v a) (h:Steps P md ops Q ord (listed.setIfInBounds i true) (a.put o.dst v) S):Steps P md ops Q (i :: ord) listed a S:=fun hs hQ st=>by
 rw [mayFirst,Bool.and_eq_true] at hf
 exact Any.first (nth_at hi) hs hQ ord.length listed a S st (Region.free_spec (nth_at hi) hf.1) (by simpa using hf.2) hg (h hs hQ st)
theorem Steps.skip (hi:nth ops.toList i=some o) (hf:mayFirst md ops listed i=true) (hw:Region.wanted o (yielded ops a.tmps)=false) (h:Steps P md ops Q ord (listed.setIfInBounds i true) (a.put o.dst undef) S):Steps P md ops Q (i :: ord) listed a S :=
 Steps.free hi hf (.inr ⟨hw,rfl⟩) h
theorem Steps.pure (hi:nth ops.toList i=some o) (hf:mayFirst md ops listed i=true) (hw:Region.wanted o (yielded ops a.tmps)=true) (hv:∀ w,S w→(execOp a.eval o).run P w=.ok (.value v) w) (h:Steps P md ops Q ord (listed.setIfInBounds i true) (a.put o.dst v) S):Steps P md ops Q (i :: ord) listed a S :=
 Steps.free hi hf (.inl ⟨hw,fun w hS=>by rw [hv w hS];exact ⟨rfl,Ext.refl _⟩⟩) h
theorem Steps.call (hi:nth ops.toList i=some o) (hf:mayFirst md ops listed i=true) (hw:Region.wanted o (yielded ops a.tmps)=true) (hv:∀ w,S w→(execOp a.eval o).run P w=.ok (.enter f args) w)
  (hc:∀ w,S w→Calls P f args w fun e w'=>e=.returned v∧Ext w w') (h:Steps P md ops Q ord (listed.setIfInBounds i true) (a.put o.dst v) S):Steps P md ops Q (i :: ord) listed a S :=
 Steps.free hi hf (.inl ⟨hw,fun w hS=>by rw [hv w hS];exact hc w hS⟩) h
theorem Steps.sk (h:Steps P md ops Q ord (listed.setIfInBounds i true) (a.put o.dst undef) S) (hi:nth ops.toList i=some o:=by rfl) (hf:mayFirst md ops listed i=true:=by kernel_rfl) (hw:Region.wanted o (yielded ops a.tmps)=false:=by rfl):Steps P md ops Q (i :: ord) listed a S:=Steps.skip hi hf hw h
theorem Steps.pu (hv:∀ w,S w→(execOp a.eval o).run P w=.ok (.value v) w) (h:Steps P md ops Q ord (listed.setIfInBounds i true) (a.put o.dst v) S) (hi:nth ops.toList i=some o:=by rfl) (hf:mayFirst md ops listed i=true:=by kernel_rfl) (hw:Region.wanted o (yielded ops a.tmps)=true:=by rfl):Steps P md ops Q (i :: ord) listed a S:=Steps.pure hi hf hw hv h
theorem Steps.ca (hv:∀ w,S w→(execOp a.eval o).run P w=.ok (.enter f args) w) (hc:∀ w,S w→Calls P f args w fun e w'=>e=.returned v∧Ext w w') (h:Steps P md ops Q ord (listed.setIfInBounds i true) (a.put o.dst v) S) (hi:nth ops.toList i=some o:=by rfl) (hf:mayFirst md ops listed i=true:=by kernel_rfl) (hw:Region.wanted o (yielded ops a.tmps)=true:=by rfl):Steps P md ops Q (i :: ord) listed a S:=Steps.call hi hf hw hv hc h
theorem Steps.forced (hr:Region.ready md ops listed=[i]) (h:One P md ops Q i ord listed a S):Steps P md ops Q (i :: ord) listed a S:=fun hs hQ st =>
 ⟨fun e=>absurd hr (by rw [e];exact fun x=>by cases x),fun k hk=>by rw [hr] at hk;simp at hk;subst hk;exact h hs hQ st⟩
theorem One.call (F:Value→World→Prop) (hF:∀ v,Stays (F v)) (hi:nth ops.toList i=some o) (hw:Region.wanted o (yielded ops a.tmps)=true) (hv:∀ w,S w→(execOp a.eval o).run P w=.ok (.enter f args) w)
  (hc:∀ w,S w→Calls P f args w fun e w'=>∃ v,e=.returned v∧Ext w w'∧F v w')
  (h:∀ v u,F v u→Steps P md ops Q ord (listed.setIfInBounds i true) (a.put o.dst v) (fun w=>S w∧F v w)):One P md ops Q i ord listed a S:=fun hs hQ st w hS=>by
 unfold wpOp
 simp only [nth_at hi]
 rw [if_pos hw]
 refine .inl ?_
 unfold Oper.wp
 rw [hv w hS]
 refine Calls.mono (hc w hS) fun e w' he=>?_
 obtain ⟨v,rfl,hb,hFv⟩:=he
 exact ⟨_,st.and (hF v),fun _ x=>x.1,⟨st _ _ hS hb,hFv⟩,h v w' hFv hs hQ (st.and (hF v))⟩
theorem One.val (F:Value→World→Prop) (hF:∀ v,Stays (F v)) (hi:nth ops.toList i=some o) (hw:Region.wanted o (yielded ops a.tmps)=true) (hv:∀ w,S w→∃ v w',(execOp a.eval o).run P w=.ok (.value v) w'∧Ext w w'∧F v w')
  (h:∀ v u,F v u→Steps P md ops Q ord (listed.setIfInBounds i true) (a.put o.dst v) (fun w=>S w∧F v w)):One P md ops Q i ord listed a S:=fun hs hQ st w hS=>by
 unfold wpOp
 simp only [nth_at hi]
 rw [if_pos hw]
 refine .inl ?_
 unfold Oper.wp
 obtain ⟨v,w',e,hb,hFv⟩:=hv w hS
 rw [e]
 exact ⟨_,st.and (hF v),fun _ x=>x.1,⟨st _ _ hS hb,hFv⟩,h v w' hFv hs hQ (st.and (hF v))⟩
theorem One.store (S':World→Prop) (st':Stays S') (sub:∀ u,S' u→S u) (hi:nth ops.toList i=some o) (hw:Region.wanted o (yielded ops a.tmps)=true) (hv:∀ w,S w→∃ w',(execOp a.eval o).run P w=.ok .skip w'∧S' w')
  (h:Steps P md ops Q ord (listed.setIfInBounds i true) (a.put o.dst undef) S'):One P md ops Q i ord listed a S:=fun hs hQ _ w hS=>by
 unfold wpOp
 simp only [nth_at hi]
 rw [if_pos hw]
 refine .inl ?_
 unfold Oper.wp
 obtain ⟨w',e,hS'⟩:=hv w hS
 rw [e]
 exact ⟨S',st',sub,hS',h hs hQ st'⟩
theorem region {id:Nat} {W:World} (ord:List Nat) (hm:P.follows .mixedOrders=true) (hs:Region.noSelect ops=true) (hl:ord.length=ops.size) (hQ:∀ c a d v w,Q (.panic c) (Act.put a d v) w→Q (.panic c) a w)
  (h:Steps P .any ops Q ord (Array.replicate ops.size false) a (fun w=>Ext W w)):(Code.region id ops true).wp P Q a W :=
 wp_region_any hm (by
  have k:=Any.any (md:=.any) ord.length (Array.replicate ops.size false) a _ W.drew (Ext.refl _).drew (h hs hQ (Stays.ext W))
  rw [hl] at k
  exact k)
theorem rg {id:Nat} {W:World} (ord:List Nat) (h:Steps P .any ops Q ord (Array.replicate ops.size false) a (fun w=>Ext W w)) (hm:P.follows .mixedOrders=true:=by kernel_rfl) (hs:Region.noSelect ops=true:=by kernel_rfl) (hl:ord.length=ops.size:=by kernel_rfl) (hQ:∀ c a d v w,Q (.panic c) (Act.put a d v) w→Q (.panic c) a w:=by (intro _ _ d _ _ h;cases d<;>exact h)):(Code.region id ops true).wp P Q a W:=region ord hm hs hl hQ h
end
end Go.Proofs.YtjhocpcpkemcaaaGreat.Re
namespace Go.Proofs.YtjhocpcpkemcaaaGreat.Ac
open Go.RowKit
open Rw
open Sl
open Re (Ext)
def Two (x y:Int) (v:Value) (w:World):Prop:=∃ b c,v=.slice (some ⟨b,0,none⟩) 2 c∧b<w.heap.size∧w.cell? ⟨b,0,none⟩=some (.int .i64 x)∧w.cell? ⟨b,1,none⟩=some (.int .i64 y)
theorem Two.stays (x y:Int) (v:Value) (w w':World) (h:Two x y v w) (he:Ext w w'):Two x y v w':=by
 obtain ⟨b,c,hv,hb,h0,h1⟩:=h
 have k:=he.below
 exact ⟨b,c,hv,Nat.lt_of_lt_of_le hb k.size,by rw [k.cell (p:=⟨b,0,none⟩) hb];exact h0,by rw [k.cell (p:=⟨b,1,none⟩) hb];exact h1⟩
theorem Two.made (x y:Int) (w:World) (t:TypeId):Two x y (.slice (some ⟨w.heap.size,0,none⟩) 2 2) (w.alloc (.cells #[.int .i64 x,.int .i64 y] t)) :=
 ⟨_,2,rfl,by simp,by simp [go_sem],by simp [go_sem]⟩
theorem orTwo_any (x y:Int) (v:Value) (w:World) (h:Two x y v w):Calls Tryz.prog 139 #[v] w fun e w'=>∃ u,e=.returned u∧Ext w w'∧u=.int .i64 (orI x y):=by
 obtain ⟨b,c,rfl,_,h0,h1⟩:=h
 exact (or_any x y b c w h0 h1).mono fun e w' ⟨he,hw⟩=>⟨_,he,hw ▸ Ext.refl _,rfl⟩
theorem purses_ext (a b c d:Int) (w:World) :
  Calls Tryz.prog 104 #[.agg #[.int .i64 a,.int .i64 b],.agg #[.int .i64 c,.int .i64 d]] w fun e w'=>e=.returned (.int .i64 (cmpP (a,b) (c,d)))∧Ext w w':=by
 obtain ⟨r,hr⟩:∃ r,cmpP (a,b) (c,d)=r:=⟨_,rfl⟩
 rw [hr]
 have HR:=lH hr
 obtain ⟨x,hx⟩:∃ x,cmpI a c=x:=⟨_,rfl⟩
 obtain ⟨y,hy⟩:∃ y,cmpI b d=y:=⟨_,rfl⟩
 have HX:∀ w,Calls Tryz.prog 129 #[.int .i64 a,.int .i64 c] w fun e w'=>e=.returned (.int .i64 x)∧w=w':=fun w=>by rw [← hx];exact compare_any a c w
 have HY:∀ w,Calls Tryz.prog 129 #[.int .i64 b,.int .i64 d] w fun e w'=>e=.returned (.int .i64 y)∧w=w':=fun w=>by rw [← hy];exact compare_any b d w
 have HX:=lH HX
 have HY:=lH HY
 have HO:Hid (orI x y=r):=lH (by rw [← hr,← hx,← hy];rfl)
 clear hr hx hy
 go_enter Tryz.func104,Tryz.ntmps104
 go_wp2
 obtain ⟨V,hV⟩:∃ V,V=(w.alloc (.cells #[.int .i64 a,.int .i64 b] 50)).alloc (.cells #[.int .i64 c,.int .i64 d] 50):=⟨_,rfl⟩
 have hbV:Ext w V:=hV ▸ (Ext.alloc w _).trans (Ext.alloc _ _)
 have hzV:w.heap.size+1<V.heap.size:=by rw [hV];simp
 have hzU:w.heap.size<V.heap.size:=by omega
 have hF:∀ u,Ext V u→u.cell? ⟨w.heap.size,0,none⟩=some (.int .i64 a)∧u.cell? ⟨w.heap.size,1,none⟩=some (.int .i64 b)∧u.cell? ⟨w.heap.size+1,0,none⟩=some (.int .i64 c)∧u.cell? ⟨w.heap.size+1,1,none⟩=some (.int .i64 d):=fun u hu=>by
  have hb:=hu.below
  refine ⟨?_,?_,?_,?_⟩
  ·rw [hb.cell (p:=⟨w.heap.size,0,none⟩) hzU,hV];simp [go_sem]
  ·rw [hb.cell (p:=⟨w.heap.size,1,none⟩) hzU,hV];simp [go_sem]
  ·rw [hb.cell (p:=⟨w.heap.size+1,0,none⟩) hzV,hV];simp [go_sem]
  ·rw [hb.cell (p:=⟨w.heap.size+1,1,none⟩) hzV,hV];simp [go_sem]
 rw [← hV]
 clear hV
 refine Re.rg [0,1,2,3,4,5,6,7,8,9,10,11,12] ?_
 repeat (first | (refine Re.Steps.sk ?_;simp only [Act.put,sA,sB,sC]) | (refine Re.Steps.pu (v:=?_) ?_ ?_;rotate_left;(intro w_ hS_;have hk_:=hF w_ hS_;go_simp<;>with_reducible rfl);simp only [Act.put,sA,sB,sC]) | (refine Re.Steps.ca (v:=?_) (f:=?_) (args:=?_) ?_ ?_ ?_;rotate_left 3;(intro w_ hS_;have hk_:=hF w_ hS_;go_simp<;>first | with_reducible rfl | (constructor<;>with_reducible rfl));(intro w_ hS_;have hk_:=hF w_ hS_;first | (go_at_call 129;(first | with_reducible refine (HX.out _).mono ?_ | with_reducible refine (HY.out _).mono ?_);first | (rintro e w_ ⟨rfl,rfl⟩;refine ⟨?_,Re.Ext.refl _⟩;with_reducible rfl) | (rintro e w_ ⟨rfl,hb_⟩;refine ⟨?_,hb_⟩;with_reducible rfl)));simp only [Act.put,sA,sB,sC]))
 refine Re.Steps.forced (by kernel_rfl) ?_
 refine Re.One.val (Two x y) (Two.stays x y) (by rfl) (by rfl) ?_ ?_
 ·intro w_ hS_
  refine ⟨_,_,?_,Ext.alloc w_ (.cells #[.int .i64 x,.int .i64 y] 3),Two.made x y w_ 3⟩
  go_simp
 intro v u_ hv
 simp only [Act.put,sA,sB,sC]
 refine Re.Steps.forced (by kernel_rfl) ?_
 refine Re.One.call (fun v _=>v=.int .i64 (orI x y)) (fun v w w' h _=>h) (f:=?_) (args:=?_) (by rfl) (by rfl) ?_ ?_ ?_
 rotate_left 2
 ·intro w_ hS_;have hk_:=(fun u (hu:Ext V u∧Two x y v u)=>hu.2) w_ hS_;go_simp<;>first | with_reducible rfl | (constructor<;>with_reducible rfl)
 ·intro w_ hS_;have hk_:=(fun u (hu:Ext V u∧Two x y v u)=>hu.2) w_ hS_;exact orTwo_any x y v _ hk_
 intro z u_ hz
 simp only [Act.put,sA,sB,sC]
 rw [HO.out] at hz
 subst hz
 repeat (first | (refine Re.Steps.sk ?_;simp only [Act.put,sA,sB,sC]) | (refine Re.Steps.pu (v:=?_) ?_ ?_;rotate_left;(intro w_ hS_;have hk_:=(fun u (hu:_∧_)=>True.intro) w_ hS_;go_simp<;>with_reducible rfl);simp only [Act.put,sA,sB,sC]))
 refine Re.Steps.nil (by kernel_rfl) ?_
 intro w4 hb6
 go_wp2
 go_ret
 exact ⟨ret_int HO.out,hbV.trans hb6.1.1⟩
theorem purses_is {a b c d:Int} {r:Int} (h:Hid (cmpP (a,b) (c,d)=r)) (w:World) :
  Calls Tryz.prog 104 #[.agg #[.int .i64 a,.int .i64 b],.agg #[.int .i64 c,.int .i64 d]] w fun e w'=>e=.returned (.int .i64 r)∧Below w.heap.size w w':=by
 rw [← h.out];exact (purses_ext a b c d w).mono fun e w' ⟨h1,h2⟩=>⟨h1,h2.below⟩
end Go.Proofs.YtjhocpcpkemcaaaGreat.Ac
namespace Go.Proofs.YtjhocpcpkemcaaaGreat.Ac
open Go.RowKit
open Rw
open Sl
open Mo (may may_any)
variable {lo:Nat}
theorem may_is {a:Int} {r:Bool} (h:Hid (may a=r)) (w:World) :
  Calls Tryz.prog 103 #[.int .i64 a] w fun e w'=>e=.returned (.bool r)∧w=w':=by
 rw [← h.out];exact may_any a w
theorem right_any (l:List Hd) (v:Value) (w:World) (h:HL lo l v w) (hm:l.length≤1000000) :
  Calls Tryz.prog 59 #[v] w fun e w'=>e=.returned (.bool (right l))∧Below w.heap.size w w':=by
 rcases h.cases with ⟨rfl,a,c,rfl⟩ | ⟨hne,b,off,c,rfl,hat⟩
 ·clear h
  go_enter Tryz.func59,Tryz.ntmps59
  go_wp2
  go_loopw [7] (fun i wr=>i=.int .i64 0∧Below w.heap.size w wr) (fun i _=>0)
  case atStart=>exact ⟨rfl,Below.refl _ _⟩
  case round =>
   obtain ⟨rfl,hb⟩:=hrel
   go_wp2
   go_ret
   exact ⟨rfl,hb⟩
 ·have hbw:=hat.1
  have HA:=lH hat
  obtain ⟨n,hn⟩:∃ n,n=l.length:=⟨_,rfl⟩
  rw [← hn] at hm ⊢
  have HN:=lH hn
  clear h hat hn hne
  go_enter Tryz.func59,Tryz.ntmps59
  go_wp2
  go_loopw [7] (fun i wr=>∃ k:Nat,k≤n∧i=.int .i64 k∧Below w.heap.size w wr∧rightTo l k=true) (fun i _=>n - (intOf i).toNat)
  case atStart=>exact ⟨0,Nat.zero_le _,rfl,Below.refl _ _,rfl⟩
  case round =>
   obtain ⟨k,hk,rfl,hb,hto⟩:=hrel
   have HT:=lH hto
   clear hto
   by_cases hlt:k<n
   ·have hlt2:(k:Int)<n:=by omega
    have hkl:k<l.length:=by rw [← HN.out];exact hlt
    obtain ⟨⟨x,y,z⟩,hx⟩:∃ x,l[k]=x:=⟨_,rfl⟩
    have hc:=at3 HA.out k hkl
    rw [hx] at hc
    simp only at hc
    have HX:=lH hx
    clear hx
    obtain ⟨q0,q1,q2⟩:=hc
    obtain ⟨c1,f1,r1,p1⟩:=bcell hb
    have hbr:b<wr.heap.size:=by have:=hb.size;omega
    obtain ⟨V,hV⟩:∃ V,V=wr.alloc (.cells #[.int .i64 x,.int .i64 y,.int .i64 z] 52):=⟨_,rfl⟩
    have hbV:Below wr.heap.size wr V:=hV ▸ below1 wr _
    have hzV:wr.heap.size<V.heap.size:=by rw [hV];simp
    have hF:∀ u,Below V.heap.size V u→u.cell? ⟨wr.heap.size,0,none⟩=some (.int .i64 x)∧u.cell? ⟨wr.heap.size,1,none⟩=some (.int .i64 y)∧u.cell? ⟨wr.heap.size,2,none⟩=some (.int .i64 z):=fun u hu=>by
     refine ⟨?_,?_,?_⟩
     ·rw [hu.cell (p:=⟨wr.heap.size,0,none⟩) hzV,hV];simp [go_sem]
     ·rw [hu.cell (p:=⟨wr.heap.size,1,none⟩) hzV,hV];simp [go_sem]
     ·rw [hu.cell (p:=⟨wr.heap.size,2,none⟩) hzV,hV];simp [go_sem]
    have hbx:=nx hb hbV
    have HV:=lH hV
    clear hV
    cases hp:pmay (x,y)
    ·have HP:=lH hp
     have HR:Hid (right l=false):=lH (right_no k hkl (by unfold okAt;rw [getD_at hkl,HX.out];unfold good;rw [show key (x,y,z)=(x,y) from rfl,hp];rfl))
     clear hp
     go_wp2_with fail
     rw [← HV.out]
     refine (purse_is HP _).mono ?_
     rintro e w1 ⟨rfl,hb1⟩
     go_wp2
     go_ret
     exact ⟨ret_bool HR.out.symm,nx hbx hb1⟩
    ·have HP:=lH hp
     by_cases hz1:z<1
     ·have HR:Hid (right l=false):=lH (right_no k hkl (by unfold okAt;rw [getD_at hkl,HX.out,good_low hz1];rfl))
      have hd:decide (z<1)=true:=by simpa using hz1
      clear hz1 hp
      go_wp2_with fail
      rw [← HV.out]
      refine (purse_is HP _).mono ?_
      rintro e w1 ⟨rfl,hb1⟩
      obtain ⟨e0,e1,e2⟩:=hF w1 hb1
      go_wp2
      go_ret
      exact ⟨ret_bool HR.out.symm,nx hbx hb1⟩
     ·have hd:decide (z<1)=false:=by simpa using hz1
      cases hmz:may z
      ·have HM:=lH hmz
       have HR:Hid (right l=false):=lH (right_no k hkl (by unfold okAt;rw [getD_at hkl,HX.out];unfold good;rw [show amt (x,y,z)=z from rfl,hmz];simp))
       clear hz1 hp hmz
       go_wp2_with fail
       rw [← HV.out]
       refine (purse_is HP _).mono ?_
       rintro e w1 ⟨rfl,hb1⟩
       obtain ⟨e0,e1,e2⟩:=hF w1 hb1
       go_wp2_with fail
       refine (may_is HM _).mono ?_
       rintro e w' ⟨rfl,rfl⟩
       go_wp2
       go_ret
       exact ⟨ret_bool HR.out.symm,nx hbx hb1⟩
      ·have HM:=lH hmz
       have hg:good (x,y,z)=true:=by unfold good;rw [show key (x,y,z)=(x,y) from rfl,show amt (x,y,z)=z from rfl,hp,hmz];simp;omega
       have HG:=lH hg
       clear hz1 hg hp hmz
       cases k with
       | zero =>
        simp only [Nat.zero_mul,Nat.add_zero] at q0 q1 q2
        have HS:Hid (rightTo l 1=true):=lH (by rw [rightTo_succ,HT.out,okAt_0 hkl,HX.out,HG.out];rfl)
        go_wp2_with fail
        rw [← HV.out]
        refine (purse_is HP _).mono ?_
        rintro e w1 ⟨rfl,hb1⟩
        obtain ⟨e0,e1,e2⟩:=hF w1 hb1
        go_wp2_with fail
        refine (may_is HM _).mono ?_
        rintro e w' ⟨rfl,rfl⟩
        go_wp2
        have hF1:∀ u,Below w1.heap.size w1 u→u.cell? ⟨wr.heap.size,0,none⟩=some (.int .i64 x)∧u.cell? ⟨wr.heap.size,1,none⟩=some (.int .i64 y)∧u.cell? ⟨wr.heap.size,2,none⟩=some (.int .i64 z):=fun u hu=>hF u (nx hb1 hu)
        refine Rf.rg [0,1,2,3,4,5,6,7,8,9,10,11,12,13] ?_
        repeat (first | (refine Rf.Steps.sk ?_;simp only [Act.put,sA,sB,sC]) | (refine Rf.Steps.pu (v:=?_) ?_ ?_;rotate_left;(intro w_ hS_;have hk_:=hF1 w_ hS_;go_simp<;>with_reducible rfl);simp only [Act.put,sA,sB,sC]))
        refine Rf.Steps.nil (by kernel_rfl) ?_
        intro w4 hb6
        go_wp2
        go_roundw
        case rel=>exact ⟨1,by omega,by go_num,nx hbx (nx hb1 hb6),HS.out⟩
        case measure=>simp [intOf];omega
       | succ j =>
        have hjl:j<l.length:=by omega
        obtain ⟨⟨x',y',z'⟩,hx'⟩:∃ x,l[j]=x:=⟨_,rfl⟩
        have hc':=at3 HA.out j hjl
        rw [hx'] at hc'
        simp only at hc'
        have HX':=lH hx'
        clear hx'
        obtain ⟨s0,s1,s2⟩:=hc'
        have hF2:∀ u,Below V.heap.size V u→u.cell? ⟨wr.heap.size,0,none⟩=some (.int .i64 x)∧u.cell? ⟨wr.heap.size,1,none⟩=some (.int .i64 y)∧u.cell? ⟨wr.heap.size,2,none⟩=some (.int .i64 z)∧u.cell? ⟨b,off+j*3,none⟩=some (.int .i64 x')∧u.cell? ⟨b,off+j*3+1,none⟩=some (.int .i64 y'):=fun u hu=>by
         have hbu:=nx hbx hu
         obtain ⟨e0,e1,e2⟩:=hF u hu
         exact ⟨e0,e1,e2,by rw [hbu.cell (p:=⟨b,off+j*3,none⟩) hbw];exact s0,by rw [hbu.cell (p:=⟨b,off+j*3+1,none⟩) hbw];exact s1⟩
        have hj0:(0:Int)≤j:=by omega
        have hjn:(j:Int)<n:=by omega
        have d1:decide ((0:Int)<(j:Int)+1)=true:=by rw [decide_eq_true_eq];omega
        have d2:(j:Int)+1 - 1=j:=by omega
        have d3:IntKind.i64.wrap (j:Int)=j:=IntWalk.i64_in _ (by omega)
        obtain ⟨g,hg⟩:∃ g,cmpP (x',y') (x,y)=g:=⟨_,rfl⟩
        have hpl:=cmpP_lt (x',y') (x,y)
        rw [hg] at hpl
        have HC:=lH hg
        clear s0 s1 s2 hg
        cases hl:pless (x',y') (x,y)
        ·have HR:Hid (right l=false):=lH (right_no (j+1) hkl (by rw [okAt_succ hkl,HX.out,HX'.out,HG.out];exact hl))
         rw [hl] at hpl
         have hd2:decide (g ≥ 0)=true:=by simp at hpl ⊢;omega
         have hd3:decide (0≤g)=true:=by simp at hpl ⊢;omega
         clear hl hpl
         go_wp2_with fail
         rw [← HV.out]
         refine (purse_is HP _).mono ?_
         rintro e w1 ⟨rfl,hb1⟩
         obtain ⟨e0,e1,e2⟩:=hF w1 hb1
         clear hF
         go_wp2_with fail
         refine (may_is HM _).mono ?_
         rintro e w' ⟨rfl,rfl⟩
         go_wp2
         have hF1:=fun u (hu:Below w1.heap.size w1 u)=>hF2 u (nx hb1 hu)
         refine Rf.rg [0,1,2,3,4,5,6,7,8,9,10,11,12,13] ?_
         repeat (first | (refine Rf.Steps.sk ?_;simp only [Act.put,sA,sB,sC]) | (refine Rf.Steps.pu (v:=?_) ?_ ?_;rotate_left;(intro w_ hS_;have hk_:=hF1 w_ hS_;go_simp<;>with_reducible rfl);simp only [Act.put,sA,sB,sC]) | (refine Rf.Steps.ca (v:=?_) (f:=?_) (args:=?_) ?_ ?_ ?_;rotate_left 3;(intro w_ hS_;have hk_:=hF1 w_ hS_;go_simp<;>first | with_reducible rfl | (constructor<;>with_reducible rfl));(intro w_ hS_;have hk_:=hF1 w_ hS_;first | (go_at_call 104;refine (purses_is HC _).mono ?_;first | (rintro e w_ ⟨rfl,rfl⟩;refine ⟨?_,Below.refl _ _⟩;with_reducible rfl) | (rintro e w_ ⟨rfl,hb_⟩;refine ⟨?_,hb_⟩;with_reducible rfl)));simp only [Act.put,sA,sB,sC]))
         refine Rf.Steps.nil (by kernel_rfl) ?_
         intro w4 hb6
         go_wp2
         go_ret
         exact ⟨ret_bool HR.out.symm,nx hbx (nx hb1 hb6)⟩
        ·have HS:Hid (rightTo l (j+1+1)=true):=lH (by rw [rightTo_succ,HT.out,okAt_succ hkl,HX.out,HX'.out,HG.out];exact hl)
         rw [hl] at hpl
         have hd2:decide (g ≥ 0)=false:=by simp at hpl ⊢;omega
         have hd3:decide (0≤g)=false:=by simp at hpl ⊢;omega
         clear hl hpl
         go_wp2_with fail
         rw [← HV.out]
         refine (purse_is HP _).mono ?_
         rintro e w1 ⟨rfl,hb1⟩
         obtain ⟨e0,e1,e2⟩:=hF w1 hb1
         clear hF
         go_wp2_with fail
         refine (may_is HM _).mono ?_
         rintro e w' ⟨rfl,rfl⟩
         go_wp2
         have hF1:=fun u (hu:Below w1.heap.size w1 u)=>hF2 u (nx hb1 hu)
         refine Rf.rg [0,1,2,3,4,5,6,7,8,9,10,11,12,13] ?_
         repeat (first | (refine Rf.Steps.sk ?_;simp only [Act.put,sA,sB,sC]) | (refine Rf.Steps.pu (v:=?_) ?_ ?_;rotate_left;(intro w_ hS_;have hk_:=hF1 w_ hS_;go_simp<;>with_reducible rfl);simp only [Act.put,sA,sB,sC]) | (refine Rf.Steps.ca (v:=?_) (f:=?_) (args:=?_) ?_ ?_ ?_;rotate_left 3;(intro w_ hS_;have hk_:=hF1 w_ hS_;go_simp<;>first | with_reducible rfl | (constructor<;>with_reducible rfl));(intro w_ hS_;have hk_:=hF1 w_ hS_;first | (go_at_call 104;refine (purses_is HC _).mono ?_;first | (rintro e w_ ⟨rfl,rfl⟩;refine ⟨?_,Below.refl _ _⟩;with_reducible rfl) | (rintro e w_ ⟨rfl,hb_⟩;refine ⟨?_,hb_⟩;with_reducible rfl)));simp only [Act.put,sA,sB,sC]))
         refine Rf.Steps.nil (by kernel_rfl) ?_
         intro w4 hb6
         go_wp2
         go_roundw
         case rel=>exact ⟨j+1+1,by omega,by go_num,nx hbx (nx hb1 hb6),HS.out⟩
         case measure=>simp [intOf];omega
   ·obtain rfl:k=n:=by omega
    have HR:Hid (right l=true):=lH (by unfold right;rw [← HN.out];exact HT.out)
    go_wp2
    go_ret
    exact ⟨ret_bool HR.out.symm,hb⟩
end Go.Proofs.YtjhocpcpkemcaaaGreat.Ac
namespace Go.Proofs.YtjhocpcpkemcaaaGreat.Ac
open Go.RowKit
open Rw
open Sl
variable {lo:Nat}
theorem right_is {l:List Hd} {v:Value} {r:Bool} (h:Hid (right l=r)) (w:World) (hl:HL lo l v w) (hm:l.length≤1000000) :
  Calls Tryz.prog 59 #[v] w fun e w'=>e=.returned (.bool r)∧Below w.heap.size w w':=by
 rw [← h.out];exact right_any l v w hl hm
theorem total_any (l:List Hd) (v:Value) (s:Int) (w:World) (h:HL lo l v w) (hm:l.length≤1000000) :
  Calls Tryz.prog 38 #[v,.int .i64 s] w fun e w'=>e=.returned (.int .i64 (total l s))∧Below w.heap.size w w':=by
 have HM:=lH hm
 have HH:=lH h
 cases hr:right l
 ·have HR:=lH hr
  have HT:Hid (total l s=0):=lH (by unfold total;rw [hr];rfl)
  clear h hr hm
  go_enter Tryz.func38,Tryz.ntmps38
  go_wp2_with fail
  refine (right_is HR _ HH.out HM.out).mono ?_
  rintro e w1 ⟨rfl,hb1⟩
  go_wp2
  go_ret
  exact ⟨ret_int HT.out.symm,hb1⟩
 ·have HR:=lH hr
  have HT:Hid (total l s=tot s l):=lH (by unfold total;rw [hr];rfl)
  have HRt:=lH (right_iff.1 hr)
  clear hr
  rcases h.cases with ⟨rfl,a,c,rfl⟩ | ⟨hne,b,off,c,rfl,hat⟩
  ·clear h
   go_enter Tryz.func38,Tryz.ntmps38
   go_wp2_with fail
   refine (right_is HR _ HH.out HM.out).mono ?_
   rintro e w1 ⟨rfl,hb1⟩
   go_wp2
   go_loopw [5,13] (fun t i wr=>i=.int .i64 0∧t=.int .i64 0∧Below w.heap.size w wr) (fun _ i _=>0)
   case atStart=>exact ⟨rfl,rfl,hb1⟩
   case round =>
    obtain ⟨rfl,rfl,hb⟩:=hrel
    go_wp2
    go_ret
    exact ⟨ret_int HT.out.symm,hb⟩
  ·have HA:=lH hat
   obtain ⟨n,hn⟩:∃ n,n=l.length:=⟨_,rfl⟩
   rw [← hn] at hm HH ⊢
   have HN:=lH hn
   clear h hat hn hne
   go_enter Tryz.func38,Tryz.ntmps38
   go_wp2_with fail
   refine (right_is HR _ HH.out HM.out).mono ?_
   rintro e w1 ⟨rfl,hb1⟩
   have HW:=lH (HA.out.stays enc 3 hb1)
   have hbb:b<w1.heap.size:=HW.out.1
   go_wp2
   go_loopw [5,13] (fun t i wr=>∃ k:Nat,k≤n∧i=.int .i64 k∧t=.int .i64 (tot s (l.take k))∧Below w1.heap.size w1 wr) (fun _ i _=>n - (intOf i).toNat)
   case atStart=>exact ⟨0,Nat.zero_le _,rfl,rfl,Below.refl _ _⟩
   case round =>
    obtain ⟨k,hk,rfl,rfl,hb⟩:=hrel
    by_cases hlt:k<n
    ·have hlt2:(k:Int)<n:=by omega
     have hkl:k<l.length:=by rw [← HN.out];exact hlt
     obtain ⟨⟨x,y,z⟩,hx⟩:∃ x,l[k]=x:=⟨_,rfl⟩
     have hc:=at3 HW.out k hkl
     have ht:=tot_take hkl s
     rw [hx] at hc ht
     simp only at hc
     obtain ⟨q0,q1,q2⟩:=hc
     obtain ⟨c1,f1,r1,p1⟩:=bcell hb
     have hbd:=tot_bd HRt.out s k
     have hbe:=tot_bd HRt.out s (k+1)
     obtain ⟨hbd1,hbd2⟩:=hbd
     have HTk:Hid (tot s (l.take (k+1))=tot s (l.take k)+(if y=s then z else 0)):=lH ht
     clear hx ht
     by_cases he:y=s
     ·subst he
      have hz:Hid (tot y (l.take (k+1))=tot y (l.take k)+z):=lH (by rw [HTk.out,if_pos rfl])
      have hz1:0≤tot y (l.take k)+z:=by rw [← hz.out];exact hbe.1
      have hz2:tot y (l.take k)+z≤576460752303423488:=by rw [← hz.out];exact hbe.2
      clear hbe
      go_wp2
      go_roundw
      case rel=>exact ⟨k+1,by omega,by go_num,by rw [hz.out],nx hb (below1 _ _)⟩
      case measure=>simp [intOf];omega
     ·have hz:Hid (tot s (l.take (k+1))=tot s (l.take k)):=lH (by rw [HTk.out,if_neg he,Int.add_zero])
      have hd:(y==s)=false:=by simpa using he
      clear hbe he
      go_wp2
      go_roundw
      case rel=>exact ⟨k+1,by omega,by go_num,by rw [hz.out],nx hb (below1 _ _)⟩
      case measure=>simp [intOf];omega
    ·obtain rfl:k=n:=by omega
     have HZ:Hid (total l s=tot s (l.take k)):=lH (by rw [HT.out,HN.out,List.take_length])
     go_wp2
     go_ret
     exact ⟨ret_int HZ.out.symm,nx hb1 hb⟩
end Go.Proofs.YtjhocpcpkemcaaaGreat.Ac
