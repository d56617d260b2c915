/- The document's own of layer 12: orders, compared. -/
import Derived.Test.YtjhocpcpkemcaaaGreatQkZZ
import Derived.Test.YtjhocpcpkemcaaaGreatQkAG
import Derived.Test.YtjhocpcpkemcaaaGreatQkAR
import Derived.Test.YtjhocpcpkemcaaaGreatQkAS
import Derived.Test.YtjhocpcpkemcaaaGreatQkAU
import Derived.Test.YtjhocpcpkemcaaaGreatQkAP
import Derived.Test.YtjhocpcpkemcaaaGreatQkAZ
import Derived.Test.YtjhocpcpkemcaaaGreatQkBV
import Derived.Test.YtjhocpcpkemcaaaGreatQkBH
set_option linter.unusedVariables false
set_option maxRecDepth 16000
set_option maxHeartbeats 32000000
namespace Go.Proofs.YtjhocpcpkemcaaaGreat.Le
open Go.RowKit
open Rw
open Da
theorem take_eq {α : Type} {l m : List α} {k : Nat} (h1 : k<l.length) (h2 : k<m.length) (h : l.take k=m.take k) (e : l[k]=m[k]) : l.take (k+1)=m.take (k+1):=by
 rw [Da.take_snoc h1,Da.take_snoc h2,h,e]
theorem ne_at {α : Type} {l m : List α} {k : Nat} (h1 : k<l.length) (h2 : k<m.length) (e : l[k]≠m[k]) : l≠m:=fun h=>by subst h;exact e rfl
end Go.Proofs.YtjhocpcpkemcaaaGreat.Le
namespace Go.Proofs.YtjhocpcpkemcaaaGreat.Ex
open Go.RowKit
open Rw
open Da
open Le (eO Od eqO eqO_iff take_eq ne_at)
open La (eH)
open Ac (Hd eqH eqH_iff)
open Se (eS Sn eqS eqS_iff ret_bool)
theorem equalH_any (B B' : Bs) (L M : List Hd) (v x : Value) (w : World) (h : Is eH 52 B L v w) (k : Is eH 52 B' M x w) (hm : L.length≤1000000) :
  Calls Tryz.prog 54 #[v,x] w fun e w'=>e=.returned (.bool (sameB L M))∧Below w.heap.size w w':=by
 obtain ⟨b1,d1,rfl,h1⟩:=h
 obtain ⟨b2,d2,rfl,h2⟩:=k
 have HA:=lH h1
 have HB:=lH h2
 clear h1 h2
 by_cases hlen : L.length=M.length
 ·obtain ⟨n,hn⟩ : ∃ n,n=L.length:=⟨_,rfl⟩
  rw [← hlen,← hn]
  rw [← hn] at hm
  have HN:=lH hn
  have HN2:=lH (hn.trans hlen)
  obtain ⟨R,hR⟩ : ∃ R,sameB L M=R:=⟨_,rfl⟩
  have HLM:=lH hR
  rw [hR]
  clear hn hlen hR
  go_enter Tryz.func54,Tryz.ntmps54
  go_wp2
  go_loopw [5,13] (fun _ i wr=>∃ k : Nat,k≤n∧i=.int .i64 k∧Below w.heap.size w wr∧L.take k=M.take k) (fun _ i _=>n - (intOf i).toNat)
  case atStart=>exact ⟨0,Nat.zero_le _,rfl,Below.refl _ _,rfl⟩
  case round =>
   obtain ⟨k,hk,rfl,hb,hsame⟩:=hrel
   have HS:=lH hsame
   clear hsame
   by_cases hlt : k<n
   ·have hlt2 : (k : Int)<n:=by omega
    have hkl : k<L.length:=by rw [← HN.out];exact hlt
    have hkm : k<M.length:=by rw [← HN2.out];exact hlt
    rcases HA.out with ⟨e,_⟩ | ⟨b,off,rfl,hat⟩
    ·rw [e] at hkl;cases hkl
    rcases HB.out with ⟨e,_⟩ | ⟨b2,off2,rfl,hat2⟩
    ·rw [e] at hkm;cases hkm
    have hbb:=hat.1
    have hbb2:=hat2.1
    obtain ⟨cs,hcs,hu⟩:=hat.at k hkl
    obtain ⟨ds,hds,hv⟩:=hat2.at k hkm
    obtain ⟨⟨x1,x2,x3⟩,hx⟩ : ∃ x,L[k]=x:=⟨_,rfl⟩
    obtain ⟨⟨y1,y2,y3⟩,hy⟩ : ∃ x,M[k]=x:=⟨_,rfl⟩
    rw [hx] at hcs
    rw [hy] at hds
    have hF : ∀ u,Below wr.heap.size wr u→u.cell? ⟨b,off+k*3,none⟩=some (.int .i64 x1)∧u.cell? ⟨b,off+k*3+1,none⟩=some (.int .i64 x2)∧u.cell? ⟨b,off+k*3+2,none⟩=some (.int .i64 x3)∧u.cell? ⟨b2,off2+k*3,none⟩=some (.int .i64 y1)∧u.cell? ⟨b2,off2+k*3+1,none⟩=some (.int .i64 y2)∧u.cell? ⟨b2,off2+k*3+2,none⟩=some (.int .i64 y3):=fun u hu2=>by
     have hbu:=nx hb hu2
     obtain ⟨c1,_⟩:=bcell hbu
     have q : ∀ j y,cs[j]?=some y→u.cell? ⟨b,off+k*3+j,none⟩=some y:=fun j y h=>(c1 _ _ hbb).trans (hu j y h)
     have q2 : ∀ j y,ds[j]?=some y→u.cell? ⟨b2,off2+k*3+j,none⟩=some y:=fun j y h=>(c1 _ _ hbb2).trans (hv j y h)
     obtain rfl : cs=_:=hcs
     obtain rfl : ds=_:=hds
     exact ⟨q 0 _ rfl,q 1 _ rfl,q 2 _ rfl,q2 0 _ rfl,q2 1 _ rfl,q2 2 _ rfl⟩
    have HX:=lH hx
    have HY:=lH hy
    clear hx hy hat hat2 hu hv hcs hds
    by_cases he : ((x1,x2,x3) : Hd)=(y1,y2,y3)
    ·have hq : eqH (x1,x2,x3) (y1,y2,y3)=true:=eqH_iff.2 he
     have HS2 : Hid (L.take (k+1)=M.take (k+1)):=lH (take_eq hkl hkm HS.out (by rw [HX.out,HY.out];exact he))
     clear he
     go_wp2
     refine Rf.rg [0,1,2,3,4,5,6,7,8] ?_
     repeat (first | (refine Rf.Steps.sk ?_;simp only [Act.put,sA,sB,sC]) | (refine Rf.Steps.pu (v:=?_) ?_ ?_;rotate_left;(intro w_ hS_;have hk_:=hF w_ hS_;go_simp<;>with_reducible rfl);simp only [Act.put,sA,sB,sC]))
     refine Rf.Steps.nil (by kernel_rfl) ?_
     intro w4 hb6
     clear hF
     go_wp2
     go_roundw
     case rel=>exact ⟨k+1,by omega,by go_num,nx hb hb6,HS2.out⟩
     case measure=>simp [intOf];omega
    ·have hq : eqH (x1,x2,x3) (y1,y2,y3)=false:=by
      cases e : eqH (x1,x2,x3) (y1,y2,y3)
      ·rfl
      ·exact absurd (eqH_iff.1 e) he
     have HZ : Hid (R=false):=lH (by rw [← HLM.out];exact sameB_no (ne_at hkl hkm (by rw [HX.out,HY.out];exact he)))
     clear he
     go_wp2
     refine Rf.rg [0,1,2,3,4,5,6,7,8] ?_
     repeat (first | (refine Rf.Steps.sk ?_;simp only [Act.put,sA,sB,sC]) | (refine Rf.Steps.pu (v:=?_) ?_ ?_;rotate_left;(intro w_ hS_;have hk_:=hF w_ hS_;go_simp<;>with_reducible rfl);simp only [Act.put,sA,sB,sC]))
     refine Rf.Steps.nil (by kernel_rfl) ?_
     intro w4 hb6
     clear hF
     go_wp2
     go_ret
     exact ⟨ret_bool HZ.out.symm,nx hb hb6⟩
   ·obtain rfl : k=n:=by omega
    have HZ : Hid (R=true):=lH (by rw [← HLM.out];exact sameB_yes (by have:=HS.out;rwa [HN.out,List.take_length,← HN.out,HN2.out,List.take_length] at this))
    go_wp2
    go_ret
    exact ⟨ret_bool HZ.out.symm,hb⟩
 ·have HZ : Hid (sameB L M=false):=lH (sameB_no (fun e=>hlen (by rw [e])))
  have hd : ((L.length : Int) != M.length)=true:=by simp;omega
  clear hlen
  go_enter Tryz.func54,Tryz.ntmps54
  go_wp2
  go_ret
  exact ⟨ret_bool HZ.out.symm,Below.refl _ _⟩
theorem equalH_is {L M : List Hd} {r : Bool} (H : Hid (sameB L M=r)) {B B' : Bs} {v x : Value} {w : World} (h : Is eH 52 B L v w) (k : Is eH 52 B' M x w) (hm : L.length≤1000000) :
  Calls Tryz.prog 54 #[v,x] w fun e w'=>e=.returned (.bool r)∧Below w.heap.size w w':=by
 rw [← H.out];exact equalH_any B B' L M v x w h k hm
theorem equalO_any (B B' : Bs) (L M : List Od) (v x : Value) (w : World) (h : Is eO 74 B L v w) (k : Is eO 74 B' M x w) (hm : L.length≤1000000) :
  Calls Tryz.prog 171 #[v,x] w fun e w'=>e=.returned (.bool (sameB L M))∧Below w.heap.size w w':=by
 obtain ⟨b1,d1,rfl,h1⟩:=h
 obtain ⟨b2,d2,rfl,h2⟩:=k
 have HA:=lH h1
 have HB:=lH h2
 clear h1 h2
 by_cases hlen : L.length=M.length
 ·obtain ⟨n,hn⟩ : ∃ n,n=L.length:=⟨_,rfl⟩
  rw [← hlen,← hn]
  rw [← hn] at hm
  have HN:=lH hn
  have HN2:=lH (hn.trans hlen)
  obtain ⟨R,hR⟩ : ∃ R,sameB L M=R:=⟨_,rfl⟩
  have HLM:=lH hR
  rw [hR]
  clear hn hlen hR
  go_enter Tryz.func171,Tryz.ntmps171
  go_wp2
  go_loopw [5,13] (fun _ i wr=>∃ k : Nat,k≤n∧i=.int .i64 k∧Below w.heap.size w wr∧L.take k=M.take k) (fun _ i _=>n - (intOf i).toNat)
  case atStart=>exact ⟨0,Nat.zero_le _,rfl,Below.refl _ _,rfl⟩
  case round =>
   obtain ⟨k,hk,rfl,hb,hsame⟩:=hrel
   have HS:=lH hsame
   clear hsame
   by_cases hlt : k<n
   ·have hlt2 : (k : Int)<n:=by omega
    have hkl : k<L.length:=by rw [← HN.out];exact hlt
    have hkm : k<M.length:=by rw [← HN2.out];exact hlt
    rcases HA.out with ⟨e,_⟩ | ⟨b,off,rfl,hat⟩
    ·rw [e] at hkl;cases hkl
    rcases HB.out with ⟨e,_⟩ | ⟨b2,off2,rfl,hat2⟩
    ·rw [e] at hkm;cases hkm
    have hbb:=hat.1
    have hbb2:=hat2.1
    obtain ⟨cs,hcs,hu⟩:=hat.at k hkl
    obtain ⟨ds,hds,hv⟩:=hat2.at k hkm
    obtain ⟨⟨x1,x2,x3,x4,x5⟩,hx⟩ : ∃ x,L[k]=x:=⟨_,rfl⟩
    obtain ⟨⟨y1,y2,y3,y4,y5⟩,hy⟩ : ∃ x,M[k]=x:=⟨_,rfl⟩
    rw [hx] at hcs
    rw [hy] at hds
    have hF : ∀ u,Below wr.heap.size wr u→u.cell? ⟨b,off+k*5,none⟩=some (.int .i64 x1)∧u.cell? ⟨b,off+k*5+1,none⟩=some (.int .i64 x2)∧u.cell? ⟨b,off+k*5+2,none⟩=some (.int .i64 x3)∧u.cell? ⟨b,off+k*5+3,none⟩=some (.int .i64 x4)∧u.cell? ⟨b,off+k*5+4,none⟩=some (.int .i64 x5)∧u.cell? ⟨b2,off2+k*5,none⟩=some (.int .i64 y1)∧u.cell? ⟨b2,off2+k*5+1,none⟩=some (.int .i64 y2)∧u.cell? ⟨b2,off2+k*5+2,none⟩=some (.int .i64 y3)∧u.cell? ⟨b2,off2+k*5+3,none⟩=some (.int .i64 y4)∧u.cell? ⟨b2,off2+k*5+4,none⟩=some (.int .i64 y5):=fun u hu2=>by
     have hbu:=nx hb hu2
     obtain ⟨c1,_⟩:=bcell hbu
     have q : ∀ j y,cs[j]?=some y→u.cell? ⟨b,off+k*5+j,none⟩=some y:=fun j y h=>(c1 _ _ hbb).trans (hu j y h)
     have q2 : ∀ j y,ds[j]?=some y→u.cell? ⟨b2,off2+k*5+j,none⟩=some y:=fun j y h=>(c1 _ _ hbb2).trans (hv j y h)
     obtain rfl : cs=_:=hcs
     obtain rfl : ds=_:=hds
     exact ⟨q 0 _ rfl,q 1 _ rfl,q 2 _ rfl,q 3 _ rfl,q 4 _ rfl,q2 0 _ rfl,q2 1 _ rfl,q2 2 _ rfl,q2 3 _ rfl,q2 4 _ rfl⟩
    have HX:=lH hx
    have HY:=lH hy
    clear hx hy hat hat2 hu hv hcs hds
    by_cases he : ((x1,x2,x3,x4,x5) : Od)=(y1,y2,y3,y4,y5)
    ·have hq : eqO (x1,x2,x3,x4,x5) (y1,y2,y3,y4,y5)=true:=eqO_iff.2 he
     have HS2 : Hid (L.take (k+1)=M.take (k+1)):=lH (take_eq hkl hkm HS.out (by rw [HX.out,HY.out];exact he))
     clear he
     go_wp2
     refine Rf.rg [0,1,2,3,4,5,6,7,8] ?_
     repeat (first | (refine Rf.Steps.sk ?_;simp only [Act.put,sA,sB,sC]) | (refine Rf.Steps.pu (v:=?_) ?_ ?_;rotate_left;(intro w_ hS_;have hk_:=hF w_ hS_;go_simp<;>with_reducible rfl);simp only [Act.put,sA,sB,sC]))
     refine Rf.Steps.nil (by kernel_rfl) ?_
     intro w4 hb6
     clear hF
     go_wp2
     go_roundw
     case rel=>exact ⟨k+1,by omega,by go_num,nx hb hb6,HS2.out⟩
     case measure=>simp [intOf];omega
    ·have hq : eqO (x1,x2,x3,x4,x5) (y1,y2,y3,y4,y5)=false:=by
      cases e : eqO (x1,x2,x3,x4,x5) (y1,y2,y3,y4,y5)
      ·rfl
      ·exact absurd (eqO_iff.1 e) he
     have HZ : Hid (R=false):=lH (by rw [← HLM.out];exact sameB_no (ne_at hkl hkm (by rw [HX.out,HY.out];exact he)))
     clear he
     go_wp2
     refine Rf.rg [0,1,2,3,4,5,6,7,8] ?_
     repeat (first | (refine Rf.Steps.sk ?_;simp only [Act.put,sA,sB,sC]) | (refine Rf.Steps.pu (v:=?_) ?_ ?_;rotate_left;(intro w_ hS_;have hk_:=hF w_ hS_;go_simp<;>with_reducible rfl);simp only [Act.put,sA,sB,sC]))
     refine Rf.Steps.nil (by kernel_rfl) ?_
     intro w4 hb6
     clear hF
     go_wp2
     go_ret
     exact ⟨ret_bool HZ.out.symm,nx hb hb6⟩
   ·obtain rfl : k=n:=by omega
    have HZ : Hid (R=true):=lH (by rw [← HLM.out];exact sameB_yes (by have:=HS.out;rwa [HN.out,List.take_length,← HN.out,HN2.out,List.take_length] at this))
    go_wp2
    go_ret
    exact ⟨ret_bool HZ.out.symm,hb⟩
 ·have HZ : Hid (sameB L M=false):=lH (sameB_no (fun e=>hlen (by rw [e])))
  have hd : ((L.length : Int) != M.length)=true:=by simp;omega
  clear hlen
  go_enter Tryz.func171,Tryz.ntmps171
  go_wp2
  go_ret
  exact ⟨ret_bool HZ.out.symm,Below.refl _ _⟩
theorem equalO_is {L M : List Od} {r : Bool} (H : Hid (sameB L M=r)) {B B' : Bs} {v x : Value} {w : World} (h : Is eO 74 B L v w) (k : Is eO 74 B' M x w) (hm : L.length≤1000000) :
  Calls Tryz.prog 171 #[v,x] w fun e w'=>e=.returned (.bool r)∧Below w.heap.size w w':=by
 rw [← H.out];exact equalO_any B B' L M v x w h k hm
theorem equalS_any (B B' : Bs) (L M : List Sn) (v x : Value) (w : World) (h : Is eS 54 B L v w) (k : Is eS 54 B' M x w) (hm : L.length≤1000000) :
  Calls Tryz.prog 57 #[v,x] w fun e w'=>e=.returned (.bool (sameB L M))∧Below w.heap.size w w':=by
 obtain ⟨b1,d1,rfl,h1⟩:=h
 obtain ⟨b2,d2,rfl,h2⟩:=k
 have HA:=lH h1
 have HB:=lH h2
 clear h1 h2
 by_cases hlen : L.length=M.length
 ·obtain ⟨n,hn⟩ : ∃ n,n=L.length:=⟨_,rfl⟩
  rw [← hlen,← hn]
  rw [← hn] at hm
  have HN:=lH hn
  have HN2:=lH (hn.trans hlen)
  obtain ⟨R,hR⟩ : ∃ R,sameB L M=R:=⟨_,rfl⟩
  have HLM:=lH hR
  rw [hR]
  clear hn hlen hR
  go_enter Tryz.func57,Tryz.ntmps57
  go_wp2
  go_loopw [5,13] (fun _ i wr=>∃ k : Nat,k≤n∧i=.int .i64 k∧Below w.heap.size w wr∧L.take k=M.take k) (fun _ i _=>n - (intOf i).toNat)
  case atStart=>exact ⟨0,Nat.zero_le _,rfl,Below.refl _ _,rfl⟩
  case round =>
   obtain ⟨k,hk,rfl,hb,hsame⟩:=hrel
   have HS:=lH hsame
   clear hsame
   by_cases hlt : k<n
   ·have hlt2 : (k : Int)<n:=by omega
    have hkl : k<L.length:=by rw [← HN.out];exact hlt
    have hkm : k<M.length:=by rw [← HN2.out];exact hlt
    rcases HA.out with ⟨e,_⟩ | ⟨b,off,rfl,hat⟩
    ·rw [e] at hkl;cases hkl
    rcases HB.out with ⟨e,_⟩ | ⟨b2,off2,rfl,hat2⟩
    ·rw [e] at hkm;cases hkm
    have hbb:=hat.1
    have hbb2:=hat2.1
    obtain ⟨cs,hcs,hu⟩:=hat.at k hkl
    obtain ⟨ds,hds,hv⟩:=hat2.at k hkm
    obtain ⟨⟨x1,x2,x3,x4,x5,x6,x7⟩,hx⟩ : ∃ x,L[k]=x:=⟨_,rfl⟩
    obtain ⟨⟨y1,y2,y3,y4,y5,y6,y7⟩,hy⟩ : ∃ x,M[k]=x:=⟨_,rfl⟩
    rw [hx] at hcs
    rw [hy] at hds
    have hF : ∀ u,Below wr.heap.size wr u→u.cell? ⟨b,off+k*7,none⟩=some (.int .i64 x1)∧u.cell? ⟨b,off+k*7+1,none⟩=some (.int .i64 x2)∧u.cell? ⟨b,off+k*7+2,none⟩=some (.int .i64 x3)∧u.cell? ⟨b,off+k*7+3,none⟩=some (.int .i64 x4)∧u.cell? ⟨b,off+k*7+4,none⟩=some (.int .i64 x5)∧u.cell? ⟨b,off+k*7+5,none⟩=some (.int .i64 x6)∧u.cell? ⟨b,off+k*7+6,none⟩=some (.int .i64 x7)∧u.cell? ⟨b2,off2+k*7,none⟩=some (.int .i64 y1)∧u.cell? ⟨b2,off2+k*7+1,none⟩=some (.int .i64 y2)∧u.cell? ⟨b2,off2+k*7+2,none⟩=some (.int .i64 y3)∧u.cell? ⟨b2,off2+k*7+3,none⟩=some (.int .i64 y4)∧u.cell? ⟨b2,off2+k*7+4,none⟩=some (.int .i64 y5)∧u.cell? ⟨b2,off2+k*7+5,none⟩=some (.int .i64 y6)∧u.cell? ⟨b2,off2+k*7+6,none⟩=some (.int .i64 y7):=fun u hu2=>by
     have hbu:=nx hb hu2
     obtain ⟨c1,_⟩:=bcell hbu
     have q : ∀ j y,cs[j]?=some y→u.cell? ⟨b,off+k*7+j,none⟩=some y:=fun j y h=>(c1 _ _ hbb).trans (hu j y h)
     have q2 : ∀ j y,ds[j]?=some y→u.cell? ⟨b2,off2+k*7+j,none⟩=some y:=fun j y h=>(c1 _ _ hbb2).trans (hv j y h)
     obtain rfl : cs=_:=hcs
     obtain rfl : ds=_:=hds
     exact ⟨q 0 _ rfl,q 1 _ rfl,q 2 _ rfl,q 3 _ rfl,q 4 _ rfl,q 5 _ rfl,q 6 _ rfl,q2 0 _ rfl,q2 1 _ rfl,q2 2 _ rfl,q2 3 _ rfl,q2 4 _ rfl,q2 5 _ rfl,q2 6 _ rfl⟩
    have HX:=lH hx
    have HY:=lH hy
    clear hx hy hat hat2 hu hv hcs hds
    by_cases he : ((x1,x2,x3,x4,x5,x6,x7) : Sn)=(y1,y2,y3,y4,y5,y6,y7)
    ·have hq : eqS (x1,x2,x3,x4,x5,x6,x7) (y1,y2,y3,y4,y5,y6,y7)=true:=eqS_iff.2 he
     have HS2 : Hid (L.take (k+1)=M.take (k+1)):=lH (take_eq hkl hkm HS.out (by rw [HX.out,HY.out];exact he))
     clear he
     go_wp2
     refine Rf.rg [0,1,2,3,4,5,6,7,8] ?_
     repeat (first | (refine Rf.Steps.sk ?_;simp only [Act.put,sA,sB,sC]) | (refine Rf.Steps.pu (v:=?_) ?_ ?_;rotate_left;(intro w_ hS_;have hk_:=hF w_ hS_;go_simp<;>with_reducible rfl);simp only [Act.put,sA,sB,sC]))
     refine Rf.Steps.nil (by kernel_rfl) ?_
     intro w4 hb6
     clear hF
     go_wp2
     go_roundw
     case rel=>exact ⟨k+1,by omega,by go_num,nx hb hb6,HS2.out⟩
     case measure=>simp [intOf];omega
    ·have hq : eqS (x1,x2,x3,x4,x5,x6,x7) (y1,y2,y3,y4,y5,y6,y7)=false:=by
      cases e : eqS (x1,x2,x3,x4,x5,x6,x7) (y1,y2,y3,y4,y5,y6,y7)
      ·rfl
      ·exact absurd (eqS_iff.1 e) he
     have HZ : Hid (R=false):=lH (by rw [← HLM.out];exact sameB_no (ne_at hkl hkm (by rw [HX.out,HY.out];exact he)))
     clear he
     go_wp2
     refine Rf.rg [0,1,2,3,4,5,6,7,8] ?_
     repeat (first | (refine Rf.Steps.sk ?_;simp only [Act.put,sA,sB,sC]) | (refine Rf.Steps.pu (v:=?_) ?_ ?_;rotate_left;(intro w_ hS_;have hk_:=hF w_ hS_;go_simp<;>with_reducible rfl);simp only [Act.put,sA,sB,sC]))
     refine Rf.Steps.nil (by kernel_rfl) ?_
     intro w4 hb6
     clear hF
     go_wp2
     go_ret
     exact ⟨ret_bool HZ.out.symm,nx hb hb6⟩
   ·obtain rfl : k=n:=by omega
    have HZ : Hid (R=true):=lH (by rw [← HLM.out];exact sameB_yes (by have:=HS.out;rwa [HN.out,List.take_length,← HN.out,HN2.out,List.take_length] at this))
    go_wp2
    go_ret
    exact ⟨ret_bool HZ.out.symm,hb⟩
 ·have HZ : Hid (sameB L M=false):=lH (sameB_no (fun e=>hlen (by rw [e])))
  have hd : ((L.length : Int) != M.length)=true:=by simp;omega
  clear hlen
  go_enter Tryz.func57,Tryz.ntmps57
  go_wp2
  go_ret
  exact ⟨ret_bool HZ.out.symm,Below.refl _ _⟩
theorem equalS_is {L M : List Sn} {r : Bool} (H : Hid (sameB L M=r)) {B B' : Bs} {v x : Value} {w : World} (h : Is eS 54 B L v w) (k : Is eS 54 B' M x w) (hm : L.length≤1000000) :
  Calls Tryz.prog 57 #[v,x] w fun e w'=>e=.returned (.bool r)∧Below w.heap.size w w':=by
 rw [← H.out];exact equalS_any B B' L M v x w h k hm
end Go.Proofs.YtjhocpcpkemcaaaGreat.Ex
namespace Go.Proofs.YtjhocpcpkemcaaaGreat.Ex
open Go.RowKit
open Rw
open Da
open Le (LL eL Lv flat)
open La (Ln LN LB cN)
open Ac (Hd Pu HL)
open Se (NL eS Sn Rp)
open Se (ret_bool)
def SameN (l m : Ln) : Prop:=l.1=m.1∧l.2.1=m.2.1∧l.2.2.1.2.2=m.2.2.1.2.2∧flat l.2.2.1.1=flat m.2.2.1.1∧flat l.2.2.1.2.1=flat m.2.2.1.2.1∧l.2.2.2=m.2.2.2
def SameX (x y : Xc) : Prop:=x.free=y.free∧x.inn=y.inn∧x.out=y.out∧x.sess=y.sess∧x.lanes.length=y.lanes.length∧∀ (i : Nat) (l m : Ln),x.lanes[i]?=some l→y.lanes[i]?=some m→SameN l m
end Go.Proofs.YtjhocpcpkemcaaaGreat.Ex
namespace Go.Proofs.YtjhocpcpkemcaaaGreat.Ex
open Go.RowKit
open Rw
open Da
open Le (LL Lv OL eO Od flat)
open La (Ln LN cN eH hl_is)
open Bk (Bk BL)
open Ac (Hd HL)
open Se (ret_bool)
structure Sm2 (l : List Lv) : Prop where
 a : l.length≤1000
 b : (flat l).length≤1000
theorem sameOrders_is {n : Nat} {l m : List Lv} {r : Bool} (H : Hid (sameB (flat l) (flat m)=r)) {v x : Value} {w : World} (h : LL (Bs.of n) l v w) (k : LL (Bs.of n) m x w) (hn : n≤w.heap.size) (hl : Sm2 l) (hm : Sm2 m) :
  Calls Tryz.prog 138 #[v,x] w fun e w'=>e=.returned (.bool r)∧Below w.heap.size w w':=by
 obtain ⟨a1,c1,rfl⟩:=h.len
 obtain ⟨a2,c2,rfl⟩:=k.len
 have le : ∀ u,Below w.heap.size w u→(Bs.of n).le u.heap.size:=fun u hu=>⟨Nat.le_trans hn hu.size,fun _ h=>h.elim⟩
 have HO1:=lH (Le.ords_any (Bs.of n) l _ w h (le w (Below.refl _ _)) hl.a hl.b)
 have HO2:=lH (show ∀ u,Below w.heap.size w u→_ from fun u hu=>Le.ords_any (Bs.of n) m _ u (Is.stays _ _ k hu) (le u hu) hm.a hm.b)
 have HL:=lH hl
 clear h k le hl hm
 go_enter Tryz.func138,Tryz.ntmps138
 go_wp2_with fail
 refine HO1.out.mono ?_
 rintro e w1 ⟨v1,rfl,hb1,o1⟩
 go_wp2_with fail
 refine (HO2.out w1 hb1).mono ?_
 rintro e w2 ⟨v2,rfl,hb2,o2⟩
 obtain ⟨b1,d1,rfl⟩:=o1.len
 obtain ⟨b2,d2,rfl⟩:=o2.len
 go_wp2_with fail
 refine (equalO_is H (Is.stays eO 74 o1 hb2) o2 (Nat.le_trans HL.out.b (by decide))).mono ?_
 rintro e w3 ⟨rfl,hb3⟩
 have hf:=nx (nx hb1 hb2) hb3
 clear o1 o2 hb1 hb2 hb3
 go_wp2
 go_ret
 exact ⟨rfl,hf⟩
def SameK (a b : Bk) : Prop:=a.2.2=b.2.2∧flat a.1=flat b.1∧flat a.2.1=flat b.2.1
noncomputable def decB (p : Prop) : Bool:=@decide p (Classical.propDecidable _)
theorem decB_yes {p : Prop} (h : p) : decB p=true:=@decide_eq_true _ (Classical.propDecidable _) h
theorem decB_no {p : Prop} (h : ¬ p) : decB p=false:=@decide_eq_false _ (Classical.propDecidable _) h
theorem sameBook_is {n : Nat} {a b : Bk} {r : Bool} (H : Hid (decB (SameK a b)=r)) {x1 y1 x2 y2 : Value} {w : World} (h1 : LL (Bs.of n) a.1 x1 w) (h2 : LL (Bs.of n) a.2.1 y1 w) (k1 : LL (Bs.of n) b.1 x2 w) (k2 : LL (Bs.of n) b.2.1 y2 w) (hn : n≤w.heap.size) (s1 : Sm2 a.1) (s2 : Sm2 a.2.1) (t1 : Sm2 b.1) (t2 : Sm2 b.2.1) :
  Calls Tryz.prog 101 #[.agg #[x1,y1,.int .i64 a.2.2],.agg #[x2,y2,.int .i64 b.2.2]] w fun e w'=>e=.returned (.bool r)∧Below w.heap.size w w':=by
 obtain ⟨p1,q1,rfl⟩:=h1.len
 obtain ⟨p2,q2,rfl⟩:=h2.len
 obtain ⟨p3,q3,rfl⟩:=k1.len
 obtain ⟨p4,q4,rfl⟩:=k2.len
 obtain ⟨i,ei⟩ : ∃ i,a.2.2=i:=⟨_,rfl⟩
 obtain ⟨j,ej⟩ : ∃ j,b.2.2=j:=⟨_,rfl⟩
 obtain ⟨g1,e1⟩ : ∃ g,(i==j)=g:=⟨_,rfl⟩
 obtain ⟨g2,e2⟩ : ∃ g,sameB (flat a.1) (flat b.1)=g:=⟨_,rfl⟩
 obtain ⟨g3,e3⟩ : ∃ g,sameB (flat a.2.1) (flat b.2.1)=g:=⟨_,rfl⟩
 have HR:=lH (show (g1=false→r=false)∧(g2=false→r=false)∧(g1=true→g2=true→g3=r) from by
  rw [← H.out]
  refine ⟨fun h=>decB_no fun k=>?_,fun h=>decB_no fun k=>?_,fun h h'=>?_⟩
  ·rw [h] at e1;rw [← ei,← ej,k.1] at e1;simp at e1
  ·rw [h] at e2;rw [k.2.1,sameB_yes rfl] at e2;cases e2
  ·rw [h] at e1;rw [h'] at e2
   cases g3
   ·exact (decB_no fun k=>by rw [k.2.2,sameB_yes rfl] at e3;cases e3).symm
   ·exact (decB_yes ⟨by rw [ei,ej];simpa using e1,sameB_eq e2,sameB_eq e3⟩).symm)
 rw [ei,ej]
 obtain ⟨V,hV⟩ : ∃ V,V=(w.alloc (.cells #[.slice p1 a.1.length q1,.slice p2 a.2.1.length q2,.int .i64 i] 57)).alloc (.cells #[.slice p3 b.1.length q3,.slice p4 b.2.1.length q4,.int .i64 j] 57):=⟨_,rfl⟩
 have hbV : Below w.heap.size w V:=hV ▸ below2 w _ _
 have b0 : V.heap[w.heap.size]?=some (.cells #[.slice p1 a.1.length q1,.slice p2 a.2.1.length q2,.int .i64 i] 57 (0,0)):=by rw [hV,heap_al,if_neg (by simp),heap_al,if_pos rfl]
 have b1 : V.heap[w.heap.size+1]?=some (.cells #[.slice p3 b.1.length q3,.slice p4 b.2.1.length q4,.int .i64 j] 57 (0,0)):=by rw [hV,heap_al,if_pos (by simp)]
 have HF:=lH (show ∀ u,Below V.heap.size V u→u.cell? ⟨w.heap.size,1,none⟩=some (.slice p2 a.2.1.length q2)∧u.cell? ⟨w.heap.size+1,1,none⟩=some (.slice p4 b.2.1.length q4) from fun u hu=>⟨cell_is ((hu.block _ (lt_of_some b0)).trans b0),cell_is ((hu.block _ (lt_of_some b1)).trans b1)⟩)
 have H1:=lH (sameOrders_is (lH e2) (Is.stays _ _ h1 hbV) (Is.stays _ _ k1 hbV) (Nat.le_trans hn hbV.size) s1 t1)
 have H2:=lH (show ∀ u,Below V.heap.size V u→_ from fun u hu=>sameOrders_is (lH e3) (Is.stays _ _ h2 (nx hbV hu)) (Is.stays _ _ k2 (nx hbV hu)) (Nat.le_trans hn (nx hbV hu).size) s2 t2)
 have HV:=lH hV
 have HB:=lH hbV
 clear h1 h2 k1 k2 s1 s2 t1 t2 hV hbV b0 b1 e2 e3 ei ej
 go_enter Tryz.func101,Tryz.ntmps101
 cases g1
 ·have hr:=HR.out.1 (by trivial)
  clear HR
  subst hr
  go_wp2
  go_ret
  exact ⟨rfl,below2 _ _ _⟩
 go_wp2_with fail
 rw [← HV.out]
 refine H1.out.mono ?_
 rintro e w2 ⟨rfl,hb2⟩
 have hw2:=nx HB.out hb2
 cases g2
 ·have hr:=HR.out.2.1 (by trivial)
  clear HR hb2
  subst hr
  go_wp2
  go_ret
  exact ⟨rfl,hw2⟩
 obtain ⟨c0,c1⟩:=HF.out w2 hb2
 have hr:=HR.out.2.2 (by trivial) (by trivial)
 subst hr
 go_wp2_with fail
 refine (H2.out w2 hb2).mono ?_
 rintro e w3 ⟨rfl,hb3⟩
 have hw3:=nx hw2 hb3
 clear HR hb2 hw2 c0 c1 hb3
 go_wp2
 go_ret
 exact ⟨rfl,hw3⟩
theorem sm2_of {l : Ln} (h : La.Sm l) : Sm2 l.2.2.1.1∧Sm2 l.2.2.1.2.1:=⟨⟨h.m1,h.m2⟩,⟨h.m3,h.m4⟩⟩
theorem equalH_hl {n : Nat} {l m : List Hd} {r : Bool} (H : Hid (sameB l m=r)) {v x : Value} {w : World} (h : HL n l v w) (k : HL n m x w) (hm : l.length≤1000000) :
  Calls Tryz.prog 54 #[v,x] w fun e w'=>e=.returned (.bool r)∧Below w.heap.size w w':=equalH_is H (hl_is h) (hl_is k) hm
theorem sameLane_is {n : Nat} {a b : Ln} {r : Bool} (H : Hid (decB (SameN a b)=r)) {a1 a2 a3 a4 a5 a6 : Option Addr} {n1 n2 n3 n4 n5 n6 c1 c2 c3 c4 c5 c6 : Nat} {A1 A2 A3 B1 B2 B3 : Int} {w : World} (eA : a.1=A1∧a.2.1=A2∧a.2.2.1.2.2=A3) (eB : b.1=B1∧b.2.1=B2∧b.2.2.1.2.2=B3)
  (h1 : LL (Bs.of n) a.2.2.1.1 (.slice a1 n1 c1) w) (h2 : LL (Bs.of n) a.2.2.1.2.1 (.slice a2 n2 c2) w) (h3 : HL n a.2.2.2 (.slice a3 n3 c3) w) (k1 : LL (Bs.of n) b.2.2.1.1 (.slice a4 n4 c4) w) (k2 : LL (Bs.of n) b.2.2.1.2.1 (.slice a5 n5 c5) w) (k3 : HL n b.2.2.2 (.slice a6 n6 c6) w) (hn : n≤w.heap.size) (s : La.Sm a) (t : La.Sm b) :
  Calls Tryz.prog 56 #[.agg #[.int .i64 A1,.int .i64 A2,.slice a1 n1 c1,.slice a2 n2 c2,.int .i64 A3,.slice a3 n3 c3],.agg #[.int .i64 B1,.int .i64 B2,.slice a4 n4 c4,.slice a5 n5 c5,.int .i64 B3,.slice a6 n6 c6]] w fun e w'=>e=.returned (.bool r)∧Below w.heap.size w w':=by
 obtain ⟨g1,e1⟩ : ∃ g,(A1==B1)=g:=⟨_,rfl⟩
 obtain ⟨g2,e2⟩ : ∃ g,(A2==B2)=g:=⟨_,rfl⟩
 obtain ⟨g3,e3⟩ : ∃ g,decB (SameK a.2.2.1 b.2.2.1)=g:=⟨_,rfl⟩
 obtain ⟨g4,e4⟩ : ∃ g,sameB a.2.2.2 b.2.2.2=g:=⟨_,rfl⟩
 have HR:=lH (show (g1=false→r=false)∧(g2=false→r=false)∧(g3=false→r=false)∧(g1=true→g2=true→g3=true→g4=r) from by
  rw [← H.out]
  refine ⟨fun h=>decB_no fun k=>?_,fun h=>decB_no fun k=>?_,fun h=>decB_no fun k=>?_,fun h h' h''=>?_⟩
  ·rw [h,← eA.1,← eB.1,k.1] at e1;simp at e1
  ·rw [h,← eA.2.1,← eB.2.1,k.2.1] at e2;simp at e2
  ·rw [h,decB_yes ⟨k.2.2.1,k.2.2.2.1,k.2.2.2.2.1⟩] at e3;cases e3
  ·rw [h] at e1;rw [h'] at e2;rw [h''] at e3
   have k3 : SameK a.2.2.1 b.2.2.1:=by
    by_cases q : SameK a.2.2.1 b.2.2.1
    ·exact q
    ·rw [decB_no q] at e3;cases e3
   cases g4
   ·exact (decB_no fun k=>by rw [k.2.2.2.2.2,sameB_yes rfl] at e4;cases e4).symm
   ·exact (decB_yes ⟨by rw [eA.1,eB.1];simpa using e1,by rw [eA.2.1,eB.2.1];simpa using e2,k3.1,k3.2.1,k3.2.2,sameB_eq e4⟩).symm)
 obtain ⟨V,hV⟩ : ∃ V,V=(w.alloc (.cells #[.int .i64 A1,.int .i64 A2,.slice a1 n1 c1,.slice a2 n2 c2,.int .i64 A3,.slice a3 n3 c3] 59)).alloc (.cells #[.int .i64 B1,.int .i64 B2,.slice a4 n4 c4,.slice a5 n5 c5,.int .i64 B3,.slice a6 n6 c6] 59):=⟨_,rfl⟩
 have hbV : Below w.heap.size w V:=hV ▸ below2 w _ _
 have b0 : V.heap[w.heap.size]?=some (.cells #[.int .i64 A1,.int .i64 A2,.slice a1 n1 c1,.slice a2 n2 c2,.int .i64 A3,.slice a3 n3 c3] 59 (0,0)):=by rw [hV,heap_al,if_neg (by simp),heap_al,if_pos rfl]
 have b1 : V.heap[w.heap.size+1]?=some (.cells #[.int .i64 B1,.int .i64 B2,.slice a4 n4 c4,.slice a5 n5 c5,.int .i64 B3,.slice a6 n6 c6] 59 (0,0)):=by rw [hV,heap_al,if_pos (by simp)]
 have HF:=lH (show ∀ u,Below V.heap.size V u→u.cell? ⟨w.heap.size,5,none⟩=some (.slice a3 n3 c3)∧u.cell? ⟨w.heap.size+1,5,none⟩=some (.slice a6 n6 c6) from fun u hu=>⟨cell_is ((hu.block _ (lt_of_some b0)).trans b0),cell_is ((hu.block _ (lt_of_some b1)).trans b1)⟩)
 have H1:=lH (sameBook_is (a:=a.2.2.1) (b:=b.2.2.1) (lH e3) (Is.stays _ _ h1 hbV) (Is.stays _ _ h2 hbV) (Is.stays _ _ k1 hbV) (Is.stays _ _ k2 hbV) (Nat.le_trans hn hbV.size) (sm2_of s).1 (sm2_of s).2 (sm2_of t).1 (sm2_of t).2)
 rw [eA.2.2,eB.2.2] at H1
 have H2:=lH (show ∀ u,Below V.heap.size V u→_ from fun u hu=>equalH_hl (lH e4) (La.hl_stays h3 (nx hbV hu)) (La.hl_stays k3 (nx hbV hu)) (by have:=s.m5;omega))
 have HV:=lH hV
 have HB:=lH hbV
 clear h1 h2 h3 k1 k2 k3 s t hV hbV b0 b1 e3 e4 eA eB
 go_enter Tryz.func56,Tryz.ntmps56
 cases g1
 ·have hr:=HR.out.1 (by trivial)
  clear HR
  subst hr
  go_wp2
  go_ret
  exact ⟨rfl,below2 _ _ _⟩
 cases g2
 ·have hr:=HR.out.2.1 (by trivial)
  clear HR
  subst hr
  go_wp2
  go_ret
  exact ⟨rfl,below2 _ _ _⟩
 go_wp2_with fail
 rw [← HV.out]
 refine H1.out.mono ?_
 rintro e w2 ⟨rfl,hb2⟩
 have hw2:=nx HB.out hb2
 cases g3
 ·have hr:=HR.out.2.2.1 (by trivial)
  clear HR hb2
  subst hr
  go_wp2
  go_ret
  exact ⟨rfl,hw2⟩
 obtain ⟨c0,c1⟩:=HF.out w2 hb2
 have hr:=HR.out.2.2.2 (by trivial) (by trivial) (by trivial)
 subst hr
 go_wp2_with fail
 refine (H2.out w2 hb2).mono ?_
 rintro e w3 ⟨rfl,hb3⟩
 have hw3:=nx hw2 hb3
 clear HR hb2 hw2 c0 c1 hb3
 go_wp2
 go_ret
 exact ⟨rfl,hw3⟩
def SameNs (l m : List Ln) : Prop:=l.length=m.length∧∀ (i : Nat) (a b : Ln),l[i]?=some a→m[i]?=some b→SameN a b
theorem equalFunc_is {n : Nat} {l m : List Ln} {r : Bool} (H : Hid (decB (SameNs l m)=r)) {v x : Value} {w : World} (h : NsL n l v w) (k : NsL n m x w) (hn : n≤w.heap.size) (hm : l.length≤1000) (s : ∀ a∈l,La.Sm a) (t : ∀ a∈m,La.Sm a) :
  Calls Tryz.prog 55 #[v,x,.func (.func 56) #[] #[]] w fun e w'=>e=.returned (.bool r)∧Below w.heap.size w w':=by
 obtain ⟨b1,d1,rfl,h1⟩:=h
 obtain ⟨b2,d2,rfl,h2⟩:=k
 have HA:=lH h1
 have HB:=lH h2
 clear h1 h2
 by_cases hlen : l.length=m.length
 ·obtain ⟨N,hN⟩ : ∃ N,N=l.length:=⟨_,rfl⟩
  have HN:=lH hN
  have HN2:=lH (hN.trans hlen)
  rw [← hlen,← hN]
  rw [← hN] at hm
  have HS:=lH s
  have HT:=lH t
  have Hn:=lH hn
  clear s t hN hlen hn
  go_enter Tryz.func55,Tryz.ntmps55
  go_wp2
  go_loopw [7,17] (fun _ i wr=>∃ k : Nat,k≤N∧i=.int .i64 k∧Below w.heap.size w wr∧∀ (j : Nat) (a b : Ln),j<k→l[j]?=some a→m[j]?=some b→SameN a b) (fun _ i _=>N - (intOf i).toNat)
  case atStart=>exact ⟨0,Nat.zero_le _,rfl,Below.refl _ _,fun _ _ _ h=>absurd h (Nat.not_lt_zero _)⟩
  case round =>
   obtain ⟨k,hk,rfl,hb,hsame⟩:=hrel
   have HE:=lH hsame
   clear hsame
   by_cases hlt : k<N
   ·have hlt2 : (k : Int)<N:=by omega
    have hkl : k<l.length:=by rw [← HN.out];exact hlt
    have hkm : k<m.length:=by rw [← HN2.out];exact hlt
    rcases HA.out with ⟨e,_⟩ | ⟨b,off,rfl,hat⟩
    ·rw [e] at hkl;cases hkl
    rcases HB.out with ⟨e,_⟩ | ⟨b2,off2,rfl,hat2⟩
    ·rw [e] at hkm;cases hkm
    have hat:=Lies.keep _ _ hat (Keeps.of_below hb)
    have hat2:=Lies.keep _ _ hat2 (Keeps.of_below hb)
    have hbb:=hat.1
    have hbb2:=hat2.1
    obtain ⟨p1,o1,q1,p2,o2,q2,p3,o3,q3,ln1,r0,r1,r2,r3,r4,r5⟩:=atN hat k hkl
    obtain ⟨p4,o4,q4,p5,o5,q5,p6,o6,q6,ln2,u0,u1,u2,u3,u4,u5⟩:=atN hat2 k hkm
    have sl:=HS.out _ (List.getElem_mem hkl)
    have sm:=HT.out _ (List.getElem_mem hkm)
    obtain ⟨g,hg⟩ : ∃ g,decB (SameN l[k] m[k])=g:=⟨_,rfl⟩
    have HG:=lH (show (g=true→∀ (j : Nat) (a b : Ln),j<k+1→l[j]?=some a→m[j]?=some b→SameN a b)∧(g=false→r=false) from by
     refine ⟨fun h j a b hj ha hb'=>?_,fun h=>?_⟩
     ·rcases Nat.lt_or_ge j k with h1 | h1
      ·exact HE.out j a b h1 ha hb'
      ·obtain rfl : j=k:=by omega
       rw [List.getElem?_eq_getElem hkl] at ha
       rw [List.getElem?_eq_getElem hkm] at hb'
       obtain rfl:=Option.some.inj ha
       obtain rfl:=Option.some.inj hb'
       by_cases q : SameN l[j] m[j]
       ·exact q
       ·rw [decB_no q,h] at hg;cases hg
     ·rw [← H.out]
      exact decB_no fun q=>by rw [decB_yes (q.2 k _ _ (List.getElem?_eq_getElem hkl) (List.getElem?_eq_getElem hkm)),h] at hg;cases hg)
    obtain ⟨la,hla⟩ : ∃ a,l[k]=a:=⟨_,rfl⟩
    obtain ⟨lb,hlb⟩ : ∃ a,m[k]=a:=⟨_,rfl⟩
    rw [hla] at ln1 r0 r1 r4 sl hg
    rw [hlb] at ln2 u0 u1 u4 sm hg
    obtain ⟨A1,A2,A3,eA⟩ : ∃ A1 A2 A3,la.1=A1∧la.2.1=A2∧la.2.2.1.2.2=A3:=⟨_,_,_,rfl,rfl,rfl⟩
    obtain ⟨B1,B2,B3,eB⟩ : ∃ A1 A2 A3,lb.1=A1∧lb.2.1=A2∧lb.2.2.1.2.2=A3:=⟨_,_,_,rfl,rfl,rfl⟩
    rw [eA.1] at r0
    rw [eA.2.1] at r1
    rw [eA.2.2] at r4
    rw [eB.1] at u0
    rw [eB.2.1] at u1
    rw [eB.2.2] at u4
    obtain ⟨V,hV⟩ : ∃ V,V=(wr.alloc (.cells #[.int .i64 A1,.int .i64 A2,.slice p1 o1 q1,.slice p2 o2 q2,.int .i64 A3,.slice p3 o3 q3] 59)).alloc (.cells #[.int .i64 B1,.int .i64 B2,.slice p4 o4 q4,.slice p5 o5 q5,.int .i64 B3,.slice p6 o6 q6] 59):=⟨_,rfl⟩
    have hbV : Below wr.heap.size wr V:=hV ▸ below2 wr _ _
    have x0 : row V wr.heap.size=#[.int .i64 A1,.int .i64 A2,.slice p1 o1 q1,.slice p2 o2 q2,.int .i64 A3,.slice p3 o3 q3]:=by rw [hV];exact row_is (by rw [heap_al,if_neg (by simp),heap_al,if_pos rfl])
    have x1 : row V (wr.heap.size+1)=#[.int .i64 B1,.int .i64 B2,.slice p4 o4 q4,.slice p5 o5 q5,.int .i64 B3,.slice p6 o6 q6]:=by rw [hV];exact row_is (by rw [heap_al,if_pos (by simp)])
    have HC:=lH (show Calls Tryz.prog 56 #[.agg #[.int .i64 A1,.int .i64 A2,.slice p1 o1 q1,.slice p2 o2 q2,.int .i64 A3,.slice p3 o3 q3],.agg #[.int .i64 B1,.int .i64 B2,.slice p4 o4 q4,.slice p5 o5 q5,.int .i64 B3,.slice p6 o6 q6]] V fun e w'=>e=.returned (.bool g)∧Below V.heap.size V w' from by
     obtain ⟨f1,f2,f3,e1,y1,y2,y3⟩:=ln1.stays hbV
     obtain ⟨f4,f5,f6,e2,y4,y5,y6⟩:=ln2.stays hbV
     have e1:=congrArg Value.cells e1
     have e2:=congrArg Value.cells e2
     simp only [Value.cells,cN,Array.mk.injEq,List.cons.injEq,and_true,true_and] at e1 e2
     obtain ⟨rfl,rfl,rfl⟩:=e1
     obtain ⟨rfl,rfl,rfl⟩:=e2
     exact sameLane_is (lH hg) eA eB y1 y2 y3 y4 y5 y6 (Nat.le_trans Hn.out (nx hb hbV).size) sl sm)
    have HBV:=lH (nx hb hbV)
    rw [hV] at x0 x1
    have HV:=lH hV
    clear hV hbV hat hat2 ln1 ln2 sl sm hg hla hlb eA eB
    go_wp2_with fail
    rw [← HV.out]
    refine HC.out.mono ?_
    rintro e w2 ⟨rfl,hb2⟩
    have hw2:=nx HBV.out hb2
    clear hb2 r0 r1 r2 r3 r4 r5 u0 u1 u2 u3 u4 u5 x0 x1
    cases g
    ·have hr:=HG.out.2 (by trivial)
     clear HG
     go_wp2
     go_ret
     exact ⟨ret_bool hr.symm,hw2⟩
    ·have HG2:=lH (HG.out.1 (by trivial))
     clear HG
     go_wp2
     go_roundw
     case rel=>exact ⟨k+1,by omega,by go_num,hw2,HG2.out⟩
     case measure=>simp [intOf];omega
   ·obtain rfl : k=N:=by omega
    have hr : Hid (r=true):=lH (by
     rw [← H.out]
     refine decB_yes ⟨by rw [← HN.out,← HN2.out],fun i a b ha hb'=>HE.out i a b ?_ ha hb'⟩
     rw [HN.out];exact (List.getElem?_eq_some_iff.1 ha).1)
    go_wp2
    go_ret
    exact ⟨ret_bool hr.out.symm,hb⟩
 ·have hr : Hid (r=false):=lH (by rw [← H.out];exact decB_no fun q=>hlen q.1)
  have hd : ((l.length : Int) != m.length)=true:=by simp;omega
  clear hlen
  go_enter Tryz.func55,Tryz.ntmps55
  go_wp2
  go_ret
  exact ⟨ret_bool hr.out.symm,Below.refl _ _⟩
end Go.Proofs.YtjhocpcpkemcaaaGreat.Ex
namespace Go.Proofs.YtjhocpcpkemcaaaGreat.Ex
open Go.RowKit
open Rw
open Da
open La (Ln)
open Ac (Hd HL)
open Se (ret_bool)
theorem sameXc_is {n : Nat} {x y : Xc} {r : Bool} (H : Hid (decB (SameX x y)=r)) {v u : Value} {w : World} (h : XV n x v w) (k : XV n y u w) (hn : n≤w.heap.size) (hs : SmX x) (ht : SmX y) :
  Calls Tryz.prog 17 #[v,u] w fun e w'=>e=.returned (.bool r)∧Below w.heap.size w w':=by
 obtain ⟨_,_,_,_,_,rfl,hd⟩:=h
 obtain ⟨_,_,_,_,_,rfl,kd⟩:=k
 obtain ⟨a1,d1,a2,d2,a3,d3,a4,d4,a5,d5,rfl,rfl,rfl,rfl,rfl⟩:=hd.open'
 obtain ⟨b1,c1,b2,c2,b3,c3,b4,c4,b5,c5,rfl,rfl,rfl,rfl,rfl⟩:=kd.open'
 obtain ⟨n1,q1⟩ : ∃ q,x.free.length=q:=⟨_,rfl⟩
 obtain ⟨n2,q2⟩ : ∃ q,x.lanes.length=q:=⟨_,rfl⟩
 obtain ⟨n3,q3⟩ : ∃ q,x.sess.length=q:=⟨_,rfl⟩
 obtain ⟨n4,q4⟩ : ∃ q,x.inn.length=q:=⟨_,rfl⟩
 obtain ⟨n5,q5⟩ : ∃ q,x.out.length=q:=⟨_,rfl⟩
 obtain ⟨m1,p1⟩ : ∃ q,y.free.length=q:=⟨_,rfl⟩
 obtain ⟨m2,p2⟩ : ∃ q,y.lanes.length=q:=⟨_,rfl⟩
 obtain ⟨m3,p3⟩ : ∃ q,y.sess.length=q:=⟨_,rfl⟩
 obtain ⟨m4,p4⟩ : ∃ q,y.inn.length=q:=⟨_,rfl⟩
 obtain ⟨m5,p5⟩ : ∃ q,y.out.length=q:=⟨_,rfl⟩
 rw [q1,q2,q3,q4,q5] at hd ⊢
 rw [p1,p2,p3,p4,p5] at kd ⊢
 obtain ⟨g1,e1⟩ : ∃ g,sameB x.free y.free=g:=⟨_,rfl⟩
 obtain ⟨g2,e2⟩ : ∃ g,decB (SameNs x.lanes y.lanes)=g:=⟨_,rfl⟩
 obtain ⟨g3,e3⟩ : ∃ g,sameB x.sess y.sess=g:=⟨_,rfl⟩
 obtain ⟨g4,e4⟩ : ∃ g,sameB x.inn y.inn=g:=⟨_,rfl⟩
 obtain ⟨g5,e5⟩ : ∃ g,sameB x.out y.out=g:=⟨_,rfl⟩
 have HR:=lH (show (g1=false→r=false)∧(g2=false→r=false)∧(g3=false→r=false)∧(g4=false→r=false)∧(g1=true→g2=true→g3=true→g4=true→g5=r) from by
  rw [← H.out]
  refine ⟨fun h=>decB_no fun k=>?_,fun h=>decB_no fun k=>?_,fun h=>decB_no fun k=>?_,fun h=>decB_no fun k=>?_,fun h h2 h3 h4=>?_⟩
  ·rw [h,sameB_yes k.1] at e1;cases e1
  ·rw [h,decB_yes ⟨k.2.2.2.2.1,k.2.2.2.2.2⟩] at e2;cases e2
  ·rw [h,sameB_yes k.2.2.2.1] at e3;cases e3
  ·rw [h,sameB_yes k.2.1] at e4;cases e4
  ·rw [h] at e1;rw [h2] at e2;rw [h3] at e3;rw [h4] at e4
   have k2 : SameNs x.lanes y.lanes:=by
    by_cases q : SameNs x.lanes y.lanes
    ·exact q
    ·rw [decB_no q] at e2;cases e2
   cases g5
   ·exact (decB_no fun k=>by rw [sameB_yes k.2.2.1] at e5;cases e5).symm
   ·exact (decB_yes ⟨sameB_eq e1,sameB_eq e4,sameB_eq e5,sameB_eq e3,k2.1,k2.2⟩).symm)
 obtain ⟨V,hV⟩ : ∃ V,V=(w.alloc (.cells #[.slice a1 n1 d1,.slice a2 n2 d2,.slice a3 n3 d3,.slice a4 n4 d4,.slice a5 n5 d5] 28)).alloc (.cells #[.slice b1 m1 c1,.slice b2 m2 c2,.slice b3 m3 c3,.slice b4 m4 c4,.slice b5 m5 c5] 28):=⟨_,rfl⟩
 have hbV : Below w.heap.size w V:=hV ▸ below2 w _ _
 have y0 : V.heap[w.heap.size]?=some (.cells #[.slice a1 n1 d1,.slice a2 n2 d2,.slice a3 n3 d3,.slice a4 n4 d4,.slice a5 n5 d5] 28 (0,0)):=by rw [hV,heap_al,if_neg (by simp),heap_al,if_pos rfl]
 have y1 : V.heap[w.heap.size+1]?=some (.cells #[.slice b1 m1 c1,.slice b2 m2 c2,.slice b3 m3 c3,.slice b4 m4 c4,.slice b5 m5 c5] 28 (0,0)):=by rw [hV,heap_al,if_pos (by simp)]
 have HF:=lH (show ∀ u,Below V.heap.size V u→(∀ j,u.cell? ⟨w.heap.size,j,none⟩=(#[.slice a1 n1 d1,.slice a2 n2 d2,.slice a3 n3 d3,.slice a4 n4 d4,.slice a5 n5 d5] : Array Value)[j]?)∧∀ j,u.cell? ⟨w.heap.size+1,j,none⟩=(#[.slice b1 m1 c1,.slice b2 m2 c2,.slice b3 m3 c3,.slice b4 m4 c4,.slice b5 m5 c5] : Array Value)[j]? from fun u hu=>⟨fun j=>cell_is ((hu.block _ (lt_of_some y0)).trans y0),fun j=>cell_is ((hu.block _ (lt_of_some y1)).trans y1)⟩)
 have K1:=lH (equalH_hl (lH e1) (La.hl_stays hd.free hbV) (La.hl_stays kd.free hbV) (by have:=hs.free;omega))
 have K2:=lH (show ∀ u,Below V.heap.size V u→_ from fun u hu=>equalFunc_is (lH e2) (hd.stays (nx hbV hu)).lanes (kd.stays (nx hbV hu)).lanes (Nat.le_trans hn (nx hbV hu).size) hs.lanes hs.lane ht.lane)
 have K3:=lH (show ∀ u,Below V.heap.size V u→_ from fun u hu=>equalS_is (lH e3) (hd.stays (nx hbV hu)).sess (kd.stays (nx hbV hu)).sess (by have:=hs.sess;omega))
 have K4:=lH (show ∀ u,Below V.heap.size V u→_ from fun u hu=>equalH_hl (lH e4) (hd.stays (nx hbV hu)).inn (kd.stays (nx hbV hu)).inn (by have:=hs.inn;omega))
 have K5:=lH (show ∀ u,Below V.heap.size V u→_ from fun u hu=>equalH_hl (lH e5) (hd.stays (nx hbV hu)).out (kd.stays (nx hbV hu)).out (by have:=hs.out;omega))
 have HV:=lH hV
 have HB:=lH hbV
 clear hd kd hs ht hV hbV y0 y1 e1 e2 e3 e4 e5 q1 q2 q3 q4 q5 p1 p2 p3 p4 p5
 go_enter Tryz.func17,Tryz.ntmps17
 go_wp2_with fail
 rw [← HV.out]
 refine K1.out.mono ?_
 rintro e w1 ⟨rfl,hb1⟩
 have hw:=nx HB.out hb1
 cases g1
 ·have hr:=HR.out.1 (by trivial)
  clear HR hb1
  go_wp2
  go_ret
  exact ⟨ret_bool hr.symm,hw⟩
 have z1:=(HF.out w1 hb1).1 1
 have z2:=(HF.out w1 hb1).2 1
 go_wp2_with fail
 refine (K2.out w1 hb1).mono ?_
 rintro e w2 ⟨rfl,hb2⟩
 replace hb2:=nx hb1 hb2
 clear hb1 hw z1 z2
 have hw:=nx HB.out hb2
 cases g2
 ·have hr:=HR.out.2.1 (by trivial)
  clear HR hb2
  go_wp2
  go_ret
  exact ⟨ret_bool hr.symm,hw⟩
 have z1:=(HF.out w2 hb2).1 2
 have z2:=(HF.out w2 hb2).2 2
 go_wp2_with fail
 refine (K3.out w2 hb2).mono ?_
 rintro e w3 ⟨rfl,hb3⟩
 replace hb3:=nx hb2 hb3
 clear hb2 hw z1 z2
 have hw:=nx HB.out hb3
 cases g3
 ·have hr:=HR.out.2.2.1 (by trivial)
  clear HR hb3
  go_wp2
  go_ret
  exact ⟨ret_bool hr.symm,hw⟩
 have z1:=(HF.out w3 hb3).1 3
 have z2:=(HF.out w3 hb3).2 3
 go_wp2_with fail
 refine (K4.out w3 hb3).mono ?_
 rintro e w4 ⟨rfl,hb4⟩
 replace hb4:=nx hb3 hb4
 clear hb3 hw z1 z2
 have hw:=nx HB.out hb4
 cases g4
 ·have hr:=HR.out.2.2.2.1 (by trivial)
  clear HR hb4
  go_wp2
  go_ret
  exact ⟨ret_bool hr.symm,hw⟩
 have z1:=(HF.out w4 hb4).1 4
 have z2:=(HF.out w4 hb4).2 4
 have hr:=HR.out.2.2.2.2 (by trivial) (by trivial) (by trivial) (by trivial)
 clear HR
 subst hr
 go_wp2_with fail
 refine (K5.out w4 hb4).mono ?_
 rintro e w5 ⟨rfl,hb5⟩
 have hw5:=nx hw hb5
 clear hb4 hw z1 z2 hb5
 go_wp2
 go_ret
 exact ⟨rfl,hw5⟩
end Go.Proofs.YtjhocpcpkemcaaaGreat.Ex
