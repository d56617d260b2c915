/- Package exchange as it landed: New. -/
import Derived.Test.YtjhocpcpkemcaaaGreatQwZZ
import Derived.Test.YtjhocpcpkemcaaaGreatQwBV
import Derived.Test.YtjhocpcpkemcaaaGreatQwBJ
import Derived.Test.YtjhocpcpkemcaaaGreatQwBW
import Derived.Test.YtjhocpcpkemcaaaGreatQwAS
import Derived.Great.BuildSlice
import Derived.Test.YtjhocpcpkemcaaaGreatQwAG
import Derived.Deep.Slices
import Derived.Deep.Fields
import Derived.ChangeSame
import Derived.OpenShut
import Derived.Test.YtjhocpcpkemcaaaGreatQwAY
import Derived.Test.YtjhocpcpkemcaaaGreatQwBX
set_option linter.unusedVariables false
set_option maxRecDepth 16000
set_option maxHeartbeats 32000000
namespace Go.Proofs.YtjhocpcpkemcaaaGreat.Ex
open Go.RowKit
open Rw
open Da
open Le (low_setCell keeps_setCell)
open La (Ln LN cN newN newE pairOk eH hl_is is_hl)
open Ac (Hd Pu HL)
def eU : Enc Pu:=Enc.flat 2 (fun p=>[.int .i64 p.1,.int .i64 p.2]) (fun _=>rfl) (fun p u hu=>by simp at hu;rcases hu with rfl | rfl<;>rfl)
abbrev UL (B : Bs) (l : List Pu) (v : Value) (w : World) : Prop:=Is eU 50 B l v w
theorem atU {B : Bs} {l : List Pu} {b off : Nat} {w : World} (h : Lies eU 50 B l b off w) (i : Nat) (hi : i<l.length) : w.cell? ⟨b,off+i*2,none⟩=some (.int .i64 l[i].1)∧w.cell? ⟨b,off+i*2+1,none⟩=some (.int .i64 l[i].2):=by
 obtain ⟨cs,rfl,hu⟩:=h.at i hi
 exact ⟨hu 0 _ rfl,hu 1 _ rfl⟩
def okP (p : Pu) : Bool:=pairOk p.1 p.2
def nwP (p : Pu) : Ln:=newN p.1 p.2
def newXE (l : List Pu) : Int:=if 6<l.length then 5 else if l.all okP=true then 0 else 1
def newXX (l : List Pu) : Xc:=if newXE l=0 then ⟨[],l.map nwP,[],[],[]⟩ else ⟨[],[],[],[],[]⟩
theorem newP_0 : newXX [(1,0),(2,0)]=x0:=by kernel_rfl
abbrev nil5 : Array Value:=#[.slice none 0 0,.slice none 0 0,.slice none 0 0,.slice none 0 0,.slice none 0 0]
def PostNx (n : Nat) (x : Xc) (k : Int) (w : World) (e : Ending) (w' : World) : Prop:=∃ v,e=.returned (.tuple #[v,.int .i64 k])∧Below w.heap.size w w'∧XV n x v w'
theorem xv_nil (n : Nat) (w : World) : XV n ⟨[],[],[],[],[]⟩ (.agg nil5) w:=⟨_,_,_,_,_,rfl,is_hl (Is.nil _ _ _ _),Is.nil _ _ _ _,Is.nil _ _ _ _,is_hl (Is.nil _ _ _ _),is_hl (Is.nil _ _ _ _)⟩
structure NwS (n b : Nat) (ls : List Ln) (a : Option Addr) (m c : Nat) (w u : World) : Prop where
 rb : u.heap[b]?=some (.cells nil5 28 (0,0))
 xb : u.heap[b+1]?=some (.cells #[.slice none 0 0,.slice a m c,.slice none 0 0,.slice none 0 0,.slice none 0 0] 28 (0,0))
 own : Da.Own eN 59 (Bs.of n) (b+2) ls (.slice a m c) u
 len : m=ls.length
 bel : Below b w u
theorem NwS.stays {n b : Nat} {ls : List Ln} {a : Option Addr} {m c : Nat} {w u u' : World} (h : NwS n b ls a m c w u) (k : Below u.heap.size u u') : NwS n b ls a m c w u' :=
 ⟨(k.block _ (lt_of_some h.rb)).trans h.rb,(k.block _ (lt_of_some h.xb)).trans h.xb,h.own.stays k,h.len,h.bel.trans (k.mono (Nat.le_of_lt (lt_of_some h.rb)))⟩
theorem newX_any (n : Nat) (l : List Pu) (v : Value) (w : World) (h : UL (Bs.of w.heap.size) l v w) (hn : n≤w.heap.size) (hm : l.length≤1000000) :
  Calls Tryz.prog 11 #[v] w (PostNx n (newXX l) (newXE l) w):=by
 obtain ⟨ca,cc,rfl,hel⟩:=h
 obtain ⟨N,hN⟩ : ∃ N,N=l.length:=⟨_,rfl⟩
 rw [← hN] at hm ⊢
 by_cases h6 : 6<N
 ·have HQ:=lH (show newXE l=5∧newXX l=⟨[],[],[],[],[]⟩ from by
   have : newXE l=5:=by unfold newXE;rw [if_pos (by omega)]
   exact ⟨this,by unfold newXX;rw [if_neg (by rw [this];decide)]⟩)
  have hd : decide ((6 : Int)<N)=true:=decide_eq_true (by omega)
  obtain ⟨Z,hZ⟩ : ∃ Z,Z=w.alloc (.cells nil5 28):=⟨_,rfl⟩
  have hb0:=heap_alloc_new w (.cells nil5 28)
  have HF:=lH (show Below w.heap.size w Z∧row Z w.heap.size=nil5 from ⟨by rw [hZ];exact below1 _ _,by rw [hZ];exact row_is hb0⟩)
  have HZ:=lH hZ
  clear hZ hb0 hN hel h6
  go_enter Tryz.func11,Tryz.ntmps11
  go_wp2
  rw [← HZ.out]
  refine bodyPost_ret (v:=.tuple #[.agg nil5,.int .i64 5]) (ret_X2 Tryz.results11 _ _ rfl ?c1) rfl ⟨_,by rw [HQ.out.1],HF.out.1,by rw [HQ.out.2];exact xv_nil _ _⟩
  case c1=>exact HF.out.2
 have h6 : N≤6:=by omega
 have hd : decide ((6 : Int)<N)=false:=decide_eq_false (by omega)
 have HE:=lH hel
 have HN:=lH hN
 have Hn:=lH hn
 obtain ⟨V,hV⟩ : ∃ V,V=(w.alloc (.cells nil5 28)).alloc (.cells nil5 28):=⟨_,rfl⟩
 have S0:=lH (show NwS n w.heap.size [] none 0 0 w V from ⟨by rw [hV,heap_al,if_neg (by simp),heap_al,if_pos rfl],by rw [hV,heap_al,if_pos (by simp)],Da.Own.nil _ _ _,rfl,hV ▸ below2 w _ _⟩)
 have HV:=lH hV
 clear hel hN hn hV
 go_enter Tryz.func11,Tryz.ntmps11
 go_wp2
 go_loopw [16] (fun i wr=>∃ k : Nat,k≤N∧i=.int .i64 k∧(l.take k).all okP=true∧∃ a m c,NwS n w.heap.size ((l.take k).map nwP) a m c w wr) (fun i _=>N - (intOf i).toNat)
 case atStart=>exact ⟨0,Nat.zero_le _,rfl,rfl,none,0,0,by first | exact S0.out | (rw [← HV.out];exact S0.out)⟩
 case round =>
  obtain ⟨k,hk,rfl,hall,a,m,c,hS⟩:=hrel
  have HL:=lH hall
  have HS:=lH hS
  clear hall hS
  by_cases hlt : k<N
  ·have hlt2 : (k : Int)<N:=by omega
   have hkl : k<l.length:=by rw [← HN.out];exact hlt
   rcases HE.out with ⟨e,_⟩ | ⟨cb,off,rfl,hat⟩
   ·rw [e] at hkl;cases hkl
   have hat2:=Lies.keep eU 50 hat (Keeps.of_below (B:=Bs.of w.heap.size) (HS.out.bel.trans (Below.refl _ _)))
   have hcb:=hat2.1
   obtain ⟨c0,c1⟩:=atU hat2 k hkl
   obtain ⟨⟨p,q⟩,hpq⟩ : ∃ y,l[k]=y:=⟨_,rfl⟩
   rw [hpq] at c0 c1
   simp only at c0 c1
   obtain ⟨E,hE⟩ : ∃ E,newE p q=E:=⟨_,rfl⟩
   obtain ⟨G,hG⟩ : ∃ G,newN p q=G:=⟨_,rfl⟩
   have HG:=lH (show (E=0∧okP l[k]=true∧nwP l[k]=G)∨(E=1∧okP l[k]=false) from by
    rw [hpq,← hE,← hG];unfold okP nwP newE
    by_cases h : pairOk p q=true
    ·exact .inl ⟨if_pos h,h,rfl⟩
    ·exact .inr ⟨if_neg h,by simpa using h⟩)
   obtain ⟨U,hU⟩ : ∃ U,U=wr.alloc (.cells #[.int .i64 p,.int .i64 q] 50):=⟨_,rfl⟩
   have hbU : Below wr.heap.size wr U:=hU ▸ below1 wr _
   have HC:=lH (La.lnew_any p q U)
   unfold La.PostNw at HC
   rw [hE,hG] at HC
   have HSU:=lH (HS.out.stays hbU)
   have HU:=lH hU
   clear hU hbU hat hat2 hpq hE hG
   go_wp2_with fail
   rw [← HU.out]
   refine HC.out.mono ?_
   rintro e w2 ⟨v2,rfl,hb2,hln⟩
   have hS2:=HSU.out.stays hb2
   have hln:=hln (Bs.of n) ⟨Nat.le_trans Hn.out HSU.out.bel.size,fun _ h=>h.elim⟩
   obtain ⟨a1,n1,d1,a2,n2,d2,a3,n3,d3,rfl,_,_,_,g1,g2,g3⟩:=hln.open'
   obtain ⟨M,hM⟩ : ∃ M,M=w2.alloc (.cells (cN G.1 G.2.1 (.slice a1 n1 d1) (.slice a2 n2 d2) G.2.2.1.2.2 (.slice a3 n3 d3)) 59):=⟨_,rfl⟩
   have hbM : Below w2.heap.size w2 M:=hM ▸ below1 w2 _
   have HSM:=lH (hS2.stays hbM)
   have hS9:=hS2.stays hbM
   clear c0 c1
   rcases HG.out with ⟨rfl,ok,hnw⟩ | ⟨rfl,no⟩
   ·have hR : eN.R (Bs.of n) G [.int .i64 G.1,.int .i64 G.2.1,.slice a1 n1 d1,.slice a2 n2 d2,.int .i64 G.2.2.1.2.2,.slice a3 n3 d3] M:=eN.stays (eN_mk g1 g2 (hl_is g3)) hbM
    have hle : (Bs.of n).le M.heap.size:=⟨Nat.le_trans Hn.out hS9.bel.size,fun _ h=>h.elim⟩
    obtain ⟨P,hP⟩ : ∃ P,P=M.alloc (.cells #[.int .i64 G.1,.int .i64 G.2.1,.slice a1 n1 d1,.slice a2 n2 d2,.int .i64 G.2.2.1.2.2,.slice a3 n3 d3] 59):=⟨_,rfl⟩
    have hbP : Below M.heap.size M P:=hP ▸ below1 M _
    have h1 : Is eN 59 (Bs.of n) [G] (.slice (some ⟨M.heap.size,0,none⟩) 1 1) P:=by rw [hP];exact Is.one hle hR
    have hSP:=hS9.stays hbP
    have hsz : w.heap.size+2≤P.heap.size:=by have:=lt_of_some hSP.xb;omega
    obtain ⟨v',w',hrun,hown',_,hbl,hkp⟩:=Da.Own.append elemN 25 typesN (B:=Bs.of n) ⟨Nat.le_trans Hn.out (Nat.le_add_right _ _),fun _ h=>h.elim⟩ hsz hSP.own h1 (by rw [List.length_map,List.length_take];simp;omega) (by decide)
    have hbl2:=hbl (w.heap.size+2) P (Nat.le_refl _) (Below.refl _ _)
    obtain ⟨a9,c9,rfl⟩:=(hown'.is (by decide) (show (Bs.of n).le (w.heap.size+2) from ⟨Nat.le_trans Hn.out (Nat.le_add_right _ _),fun _ h=>h.elim⟩)).len
    have hxb' : w'.heap[w.heap.size+1]?=_:=(hbl2.block _ (by omega)).trans hSP.xb
    have hrb' : w'.heap[w.heap.size]?=_:=(hbl2.block _ (by omega)).trans hSP.rb
    obtain ⟨m9,hm9⟩ : ∃ m,((l.take k).map nwP++[G]).length=m:=⟨_,rfl⟩
    rw [hm9] at hrun hown'
    have HF:=lH (show NwS n w.heap.size ((l.take (k+1)).map nwP) a9 m9 c9 w (w'.setCell ⟨w.heap.size+1,1,none⟩ (.slice a9 m9 c9)) from by
     have e : (l.take (k+1)).map nwP=(l.take k).map nwP++[G]:=by rw [Da.take_snoc hkl,List.map_append,List.map_cons,hnw];rfl
     have kp : Da.Keeps (Bs.of n) (59 :: eN.ts) w' (w'.setCell ⟨w.heap.size+1,1,none⟩ (.slice a9 m9 c9)):=keeps_setCell 1 _ hxb' (by decide) (Nat.le_succ_of_le Hn.out)
     refine ⟨(Below.heap_setCell w' ⟨w.heap.size+1,1,none⟩ _ _ (by show w.heap.size≠w.heap.size+1;omega)).trans hrb',La.setN 1 (.slice a9 m9 c9) hxb',?_,by rw [e,hm9],?_⟩
     ·rw [e];exact Da.Own.keep ⟨Nat.le_trans Hn.out (Nat.le_add_right _ _),fun _ h=>h.elim⟩ hown' kp
     ·exact ((hSP.bel.trans (hbl2.mono (by omega)))).trans (low_setCell _ _ (Nat.le_succ _)))
    have HA:=lH (show (l.take (k+1)).all okP=true from by rw [Da.take_snoc hkl,List.all_append,HL.out];simp [ok])
    have x1 : M.cell? ⟨w.heap.size+1,1,none⟩=some (.slice a m c):=cell_is hS9.xb
    have x2 : w'.cell? ⟨w.heap.size+1,1,none⟩=some (.slice a m c):=cell_is hxb'
    have x3 : w'.frozen? ⟨w.heap.size+1,1,none⟩=false:=thawed_is hxb'
    have x4 : row M w2.heap.size=cN G.1 G.2.1 (.slice a1 n1 d1) (.slice a2 n2 d2) G.2.2.1.2.2 (.slice a3 n3 d3):=by rw [hM];exact row_is (heap_alloc_new _ _)
    have hzM : M.heap.size=w2.heap.size+1:=by rw [hM];simp
    rw [hP,hzM,hM] at hrun
    rw [hM] at x1 x4
    clear hS9 hS2 hln g1 g2 g3 hM hbM hR hle hP hbP h1 hSP hsz hown' hbl hkp hbl2 hxb' hrb' hm9 hzM hnw ok
    go_wp2
    go_roundw
    case rel=>exact ⟨k+1,by omega,by go_num,HA.out,_,_,_,HF.out⟩
    case measure=>simp [intOf];omega
   ·have HQ:=lH (show newXE l=1∧newXX l=⟨[],[],[],[],[]⟩ from by
     have : newXE l=1:=by
      unfold newXE
      rw [if_neg (by rw [← HN.out];omega),if_neg (by
       intro h
       have:=List.all_eq_true.1 h l[k] (List.getElem_mem hkl)
       rw [no] at this;cases this)]
     exact ⟨this,by unfold newXX;rw [if_neg (by rw [this];decide)]⟩)
    have p1 : plain 5 M w.heap.size=true:=plain_is hS9.rb rfl
    obtain ⟨Z,hZ⟩ : ∃ Z,Z=M.setRow w.heap.size nil5:=⟨_,rfl⟩
    have HF:=lH (show Below w.heap.size w Z∧row Z w.heap.size=nil5 from ⟨by rw [hZ];exact below_setRow hS9.bel (Nat.le_refl _) _,by rw [hZ];exact row_set _ p1⟩)
    rw [hM] at p1 hZ
    have HZ:=lH hZ
    clear hS9 hS2 hln g1 g2 g3 hM hbM hZ no
    go_wp2
    rw [← HZ.out]
    refine bodyPost_ret (v:=.tuple #[.agg nil5,.int .i64 1]) (ret_X2 Tryz.results11 _ _ rfl ?c1) rfl ⟨_,by rw [HQ.out.1],HF.out.1,by rw [HQ.out.2];exact xv_nil _ _⟩
    case c1=>exact HF.out.2
  ·obtain rfl : k=N:=by omega
   have ht : l.take k=l:=by rw [HN.out,List.take_length]
   have HQ:=lH (show newXE l=0∧newXX l=⟨[],l.map nwP,[],[],[]⟩ from by
    have : newXE l=0:=by unfold newXE;rw [if_neg (by rw [← HN.out];omega),if_pos (by rw [← ht];exact HL.out)]
    exact ⟨this,by unfold newXX;rw [if_pos this]⟩)
   have hS:=HS.out
   rw [ht] at hS
   have p1 : plain 5 wr w.heap.size=true:=plain_is hS.rb rfl
   have r1 : row wr (w.heap.size+1)=#[.slice none 0 0,.slice a m c,.slice none 0 0,.slice none 0 0,.slice none 0 0]:=row_is hS.xb
   obtain ⟨Z,hZ⟩ : ∃ Z,Z=wr.setRow w.heap.size #[.slice none 0 0,.slice a m c,.slice none 0 0,.slice none 0 0,.slice none 0 0]:=⟨_,rfl⟩
   have HF:=lH (show Below w.heap.size w Z∧XV n ⟨[],l.map nwP,[],[],[]⟩ (.agg #[.slice none 0 0,.slice a m c,.slice none 0 0,.slice none 0 0,.slice none 0 0]) Z∧row Z w.heap.size=#[.slice none 0 0,.slice a m c,.slice none 0 0,.slice none 0 0,.slice none 0 0] from
    ⟨by rw [hZ];exact below_setRow hS.bel (Nat.le_refl _) _,⟨_,_,_,_,_,rfl,is_hl (Is.nil _ _ _ _),Is.keep _ _ (hS.own.is (by decide) (show (Bs.of n).le (w.heap.size+2) from ⟨Nat.le_trans Hn.out (Nat.le_add_right _ _),fun _ h=>h.elim⟩)) (by rw [hZ];exact Bk.keeps_setRow (B:=Bs.of n) _ hS.rb (by decide) Hn.out),Is.nil _ _ _ _,is_hl (Is.nil _ _ _ _),is_hl (Is.nil _ _ _ _)⟩,by rw [hZ];exact row_set _ p1⟩)
   have HZ:=lH hZ
   clear hS hZ ht
   go_wp2
   rw [← HZ.out]
   refine bodyPost_ret (v:=.tuple #[.agg #[.slice none 0 0,.slice a m c,.slice none 0 0,.slice none 0 0,.slice none 0 0],.int .i64 0]) (ret_X2 Tryz.results11 _ _ rfl ?c1) rfl ⟨_,by rw [HQ.out.1],HF.out.1,by rw [HQ.out.2];exact HF.out.2.1⟩
   case c1=>exact HF.out.2.2
theorem rnewLane (b q : Int) (w : World) : Calls Tryz.prog 40 #[.int .i64 b,.int .i64 q] w (La.PostNw b q w) :=
 (La.rNew10_any b q w).mono fun e w' ⟨he,hb⟩=>⟨_,he,hb,fun B _=>by
  unfold La.nwC
  cases h : pairOk b q
  ·rw [(La.newN_no h).1,if_neg (by decide)];exact La.ln_nil _ _ _ _ _
  ·rw [(La.newN_ok h).1,if_pos rfl];exact La.ln_nil _ _ _ _ _⟩
theorem rNewX_any (n : Nat) (l : List Pu) (v : Value) (w : World) (h : UL (Bs.of w.heap.size) l v w) (hn : n≤w.heap.size) (hm : l.length≤1000000) :
  Calls Tryz.prog 13 #[v] w (PostNx n (newXX l) (newXE l) w):=by
 obtain ⟨ca,cc,rfl,hel⟩:=h
 obtain ⟨N,hN⟩ : ∃ N,N=l.length:=⟨_,rfl⟩
 rw [← hN] at hm ⊢
 by_cases h6 : 6<N
 ·have HQ:=lH (show newXE l=5∧newXX l=⟨[],[],[],[],[]⟩ from by
   have : newXE l=5:=by unfold newXE;rw [if_pos (by omega)]
   exact ⟨this,by unfold newXX;rw [if_neg (by rw [this];decide)]⟩)
  have hd : decide ((6 : Int)<N)=true:=decide_eq_true (by omega)
  obtain ⟨Z,hZ⟩ : ∃ Z,Z=w.alloc (.cells nil5 28):=⟨_,rfl⟩
  have hb0:=heap_alloc_new w (.cells nil5 28)
  have HF:=lH (show Below w.heap.size w Z∧row Z w.heap.size=nil5 from ⟨by rw [hZ];exact below1 _ _,by rw [hZ];exact row_is hb0⟩)
  have HZ:=lH hZ
  clear hZ hb0 hN hel h6
  go_enter Tryz.func13,Tryz.ntmps13
  go_wp2
  rw [← HZ.out]
  refine bodyPost_ret (v:=.tuple #[.agg nil5,.int .i64 5]) (ret_X2 Tryz.results13 _ _ rfl ?c1) rfl ⟨_,by rw [HQ.out.1],HF.out.1,by rw [HQ.out.2];exact xv_nil _ _⟩
  case c1=>exact HF.out.2
 have h6 : N≤6:=by omega
 have hd : decide ((6 : Int)<N)=false:=decide_eq_false (by omega)
 have HE:=lH hel
 have HN:=lH hN
 have Hn:=lH hn
 obtain ⟨V,hV⟩ : ∃ V,V=(w.alloc (.cells nil5 28)).alloc (.cells nil5 28):=⟨_,rfl⟩
 have S0:=lH (show NwS n w.heap.size [] none 0 0 w V from ⟨by rw [hV,heap_al,if_neg (by simp),heap_al,if_pos rfl],by rw [hV,heap_al,if_pos (by simp)],Da.Own.nil _ _ _,rfl,hV ▸ below2 w _ _⟩)
 have HV:=lH hV
 clear hel hN hn hV
 go_enter Tryz.func13,Tryz.ntmps13
 go_wp2
 go_loopw [15] (fun i wr=>∃ k : Nat,k≤N∧i=.int .i64 k∧(l.take k).all okP=true∧∃ a m c,NwS n w.heap.size ((l.take k).map nwP) a m c w wr) (fun i _=>N - (intOf i).toNat)
 case atStart=>exact ⟨0,Nat.zero_le _,rfl,rfl,none,0,0,by first | exact S0.out | (rw [← HV.out];exact S0.out)⟩
 case round =>
  obtain ⟨k,hk,rfl,hall,a,m,c,hS⟩:=hrel
  have HL:=lH hall
  have HS:=lH hS
  clear hall hS
  by_cases hlt : k<N
  ·have hlt2 : (k : Int)<N:=by omega
   have hkl : k<l.length:=by rw [← HN.out];exact hlt
   rcases HE.out with ⟨e,_⟩ | ⟨cb,off,rfl,hat⟩
   ·rw [e] at hkl;cases hkl
   have hat2:=Lies.keep eU 50 hat (Keeps.of_below (B:=Bs.of w.heap.size) (HS.out.bel.trans (Below.refl _ _)))
   have hcb:=hat2.1
   obtain ⟨c0,c1⟩:=atU hat2 k hkl
   obtain ⟨⟨p,q⟩,hpq⟩ : ∃ y,l[k]=y:=⟨_,rfl⟩
   rw [hpq] at c0 c1
   simp only at c0 c1
   obtain ⟨E,hE⟩ : ∃ E,newE p q=E:=⟨_,rfl⟩
   obtain ⟨G,hG⟩ : ∃ G,newN p q=G:=⟨_,rfl⟩
   have HG:=lH (show (E=0∧okP l[k]=true∧nwP l[k]=G)∨(E=1∧okP l[k]=false) from by
    rw [hpq,← hE,← hG];unfold okP nwP newE
    by_cases h : pairOk p q=true
    ·exact .inl ⟨if_pos h,h,rfl⟩
    ·exact .inr ⟨if_neg h,by simpa using h⟩)
   obtain ⟨U,hU⟩ : ∃ U,U=wr.alloc (.cells #[.int .i64 p,.int .i64 q] 50):=⟨_,rfl⟩
   have hbU : Below wr.heap.size wr U:=hU ▸ below1 wr _
   have HC:=lH (rnewLane p q U)
   unfold La.PostNw at HC
   rw [hE,hG] at HC
   have HSU:=lH (HS.out.stays hbU)
   have HU:=lH hU
   clear hU hbU hat hat2 hpq hE hG
   go_wp2_with fail
   rw [← HU.out]
   refine HC.out.mono ?_
   rintro e w2 ⟨v2,rfl,hb2,hln⟩
   have hS2:=HSU.out.stays hb2
   have hln:=hln (Bs.of n) ⟨Nat.le_trans Hn.out HSU.out.bel.size,fun _ h=>h.elim⟩
   obtain ⟨a1,n1,d1,a2,n2,d2,a3,n3,d3,rfl,_,_,_,g1,g2,g3⟩:=hln.open'
   obtain ⟨M,hM⟩ : ∃ M,M=w2.alloc (.cells (cN G.1 G.2.1 (.slice a1 n1 d1) (.slice a2 n2 d2) G.2.2.1.2.2 (.slice a3 n3 d3)) 59):=⟨_,rfl⟩
   have hbM : Below w2.heap.size w2 M:=hM ▸ below1 w2 _
   have HSM:=lH (hS2.stays hbM)
   have hS9:=hS2.stays hbM
   clear c0 c1
   rcases HG.out with ⟨rfl,ok,hnw⟩ | ⟨rfl,no⟩
   ·have hR : eN.R (Bs.of n) G [.int .i64 G.1,.int .i64 G.2.1,.slice a1 n1 d1,.slice a2 n2 d2,.int .i64 G.2.2.1.2.2,.slice a3 n3 d3] M:=eN.stays (eN_mk g1 g2 (hl_is g3)) hbM
    have hle : (Bs.of n).le M.heap.size:=⟨Nat.le_trans Hn.out hS9.bel.size,fun _ h=>h.elim⟩
    obtain ⟨P,hP⟩ : ∃ P,P=M.alloc (.cells #[.int .i64 G.1,.int .i64 G.2.1,.slice a1 n1 d1,.slice a2 n2 d2,.int .i64 G.2.2.1.2.2,.slice a3 n3 d3] 59):=⟨_,rfl⟩
    have hbP : Below M.heap.size M P:=hP ▸ below1 M _
    have h1 : Is eN 59 (Bs.of n) [G] (.slice (some ⟨M.heap.size,0,none⟩) 1 1) P:=by rw [hP];exact Is.one hle hR
    have hSP:=hS9.stays hbP
    have hsz : w.heap.size+2≤P.heap.size:=by have:=lt_of_some hSP.xb;omega
    obtain ⟨v',w',hrun,hown',_,hbl,hkp⟩:=Da.Own.append elemN 25 typesN (B:=Bs.of n) ⟨Nat.le_trans Hn.out (Nat.le_add_right _ _),fun _ h=>h.elim⟩ hsz hSP.own h1 (by rw [List.length_map,List.length_take];simp;omega) (by decide)
    have hbl2:=hbl (w.heap.size+2) P (Nat.le_refl _) (Below.refl _ _)
    obtain ⟨a9,c9,rfl⟩:=(hown'.is (by decide) (show (Bs.of n).le (w.heap.size+2) from ⟨Nat.le_trans Hn.out (Nat.le_add_right _ _),fun _ h=>h.elim⟩)).len
    have hxb' : w'.heap[w.heap.size+1]?=_:=(hbl2.block _ (by omega)).trans hSP.xb
    have hrb' : w'.heap[w.heap.size]?=_:=(hbl2.block _ (by omega)).trans hSP.rb
    obtain ⟨m9,hm9⟩ : ∃ m,((l.take k).map nwP++[G]).length=m:=⟨_,rfl⟩
    rw [hm9] at hrun hown'
    have HF:=lH (show NwS n w.heap.size ((l.take (k+1)).map nwP) a9 m9 c9 w (w'.setCell ⟨w.heap.size+1,1,none⟩ (.slice a9 m9 c9)) from by
     have e : (l.take (k+1)).map nwP=(l.take k).map nwP++[G]:=by rw [Da.take_snoc hkl,List.map_append,List.map_cons,hnw];rfl
     have kp : Da.Keeps (Bs.of n) (59 :: eN.ts) w' (w'.setCell ⟨w.heap.size+1,1,none⟩ (.slice a9 m9 c9)):=keeps_setCell 1 _ hxb' (by decide) (Nat.le_succ_of_le Hn.out)
     refine ⟨(Below.heap_setCell w' ⟨w.heap.size+1,1,none⟩ _ _ (by show w.heap.size≠w.heap.size+1;omega)).trans hrb',La.setN 1 (.slice a9 m9 c9) hxb',?_,by rw [e,hm9],?_⟩
     ·rw [e];exact Da.Own.keep ⟨Nat.le_trans Hn.out (Nat.le_add_right _ _),fun _ h=>h.elim⟩ hown' kp
     ·exact ((hSP.bel.trans (hbl2.mono (by omega)))).trans (low_setCell _ _ (Nat.le_succ _)))
    have HA:=lH (show (l.take (k+1)).all okP=true from by rw [Da.take_snoc hkl,List.all_append,HL.out];simp [ok])
    have x1 : M.cell? ⟨w.heap.size+1,1,none⟩=some (.slice a m c):=cell_is hS9.xb
    have x2 : w'.cell? ⟨w.heap.size+1,1,none⟩=some (.slice a m c):=cell_is hxb'
    have x3 : w'.frozen? ⟨w.heap.size+1,1,none⟩=false:=thawed_is hxb'
    have x4 : row M w2.heap.size=cN G.1 G.2.1 (.slice a1 n1 d1) (.slice a2 n2 d2) G.2.2.1.2.2 (.slice a3 n3 d3):=by rw [hM];exact row_is (heap_alloc_new _ _)
    have hzM : M.heap.size=w2.heap.size+1:=by rw [hM];simp
    rw [hP,hzM,hM] at hrun
    rw [hM] at x1 x4
    clear hS9 hS2 hln g1 g2 g3 hM hbM hR hle hP hbP h1 hSP hsz hown' hbl hkp hbl2 hxb' hrb' hm9 hzM hnw ok
    go_wp2
    go_roundw
    case rel=>exact ⟨k+1,by omega,by go_num,HA.out,_,_,_,HF.out⟩
    case measure=>simp [intOf];omega
   ·have HQ:=lH (show newXE l=1∧newXX l=⟨[],[],[],[],[]⟩ from by
     have : newXE l=1:=by
      unfold newXE
      rw [if_neg (by rw [← HN.out];omega),if_neg (by
       intro h
       have:=List.all_eq_true.1 h l[k] (List.getElem_mem hkl)
       rw [no] at this;cases this)]
     exact ⟨this,by unfold newXX;rw [if_neg (by rw [this];decide)]⟩)
    have p1 : plain 5 M w.heap.size=true:=plain_is hS9.rb rfl
    obtain ⟨Z,hZ⟩ : ∃ Z,Z=M.setRow w.heap.size nil5:=⟨_,rfl⟩
    have HF:=lH (show Below w.heap.size w Z∧row Z w.heap.size=nil5 from ⟨by rw [hZ];exact below_setRow hS9.bel (Nat.le_refl _) _,by rw [hZ];exact row_set _ p1⟩)
    rw [hM] at p1 hZ
    have HZ:=lH hZ
    clear hS9 hS2 hln g1 g2 g3 hM hbM hZ no
    go_wp2
    rw [← HZ.out]
    refine bodyPost_ret (v:=.tuple #[.agg nil5,.int .i64 1]) (ret_X2 Tryz.results13 _ _ rfl ?c1) rfl ⟨_,by rw [HQ.out.1],HF.out.1,by rw [HQ.out.2];exact xv_nil _ _⟩
    case c1=>exact HF.out.2
  ·obtain rfl : k=N:=by omega
   have ht : l.take k=l:=by rw [HN.out,List.take_length]
   have HQ:=lH (show newXE l=0∧newXX l=⟨[],l.map nwP,[],[],[]⟩ from by
    have : newXE l=0:=by unfold newXE;rw [if_neg (by rw [← HN.out];omega),if_pos (by rw [← ht];exact HL.out)]
    exact ⟨this,by unfold newXX;rw [if_pos this]⟩)
   have hS:=HS.out
   rw [ht] at hS
   have p1 : plain 5 wr w.heap.size=true:=plain_is hS.rb rfl
   have r1 : row wr (w.heap.size+1)=#[.slice none 0 0,.slice a m c,.slice none 0 0,.slice none 0 0,.slice none 0 0]:=row_is hS.xb
   obtain ⟨Z,hZ⟩ : ∃ Z,Z=wr.setRow w.heap.size #[.slice none 0 0,.slice a m c,.slice none 0 0,.slice none 0 0,.slice none 0 0]:=⟨_,rfl⟩
   have HF:=lH (show Below w.heap.size w Z∧XV n ⟨[],l.map nwP,[],[],[]⟩ (.agg #[.slice none 0 0,.slice a m c,.slice none 0 0,.slice none 0 0,.slice none 0 0]) Z∧row Z w.heap.size=#[.slice none 0 0,.slice a m c,.slice none 0 0,.slice none 0 0,.slice none 0 0] from
    ⟨by rw [hZ];exact below_setRow hS.bel (Nat.le_refl _) _,⟨_,_,_,_,_,rfl,is_hl (Is.nil _ _ _ _),Is.keep _ _ (hS.own.is (by decide) (show (Bs.of n).le (w.heap.size+2) from ⟨Nat.le_trans Hn.out (Nat.le_add_right _ _),fun _ h=>h.elim⟩)) (by rw [hZ];exact Bk.keeps_setRow (B:=Bs.of n) _ hS.rb (by decide) Hn.out),Is.nil _ _ _ _,is_hl (Is.nil _ _ _ _),is_hl (Is.nil _ _ _ _)⟩,by rw [hZ];exact row_set _ p1⟩)
   have HZ:=lH hZ
   clear hS hZ ht
   go_wp2
   rw [← HZ.out]
   refine bodyPost_ret (v:=.tuple #[.agg #[.slice none 0 0,.slice a m c,.slice none 0 0,.slice none 0 0,.slice none 0 0],.int .i64 0]) (ret_X2 Tryz.results13 _ _ rfl ?c1) rfl ⟨_,by rw [HQ.out.1],HF.out.1,by rw [HQ.out.2];exact HF.out.2.1⟩
   case c1=>exact HF.out.2.2
end Go.Proofs.YtjhocpcpkemcaaaGreat.Ex
namespace Go.Proofs.YtjhocpcpkemcaaaGreat.Ex
open Go.RowKit
open Rw
open Da
open Le (low_setCell keeps_setCell)
open La (Ln LN cN)
open Ac (Hd Pu HL)
open Cm (fc fc_at v9)
open Se (Rp z5 cR)
theorem pairs_any (w : World) : Calls Tryz.prog 12 #[] w fun e w'=>∃ v,e=.returned v∧Below w.heap.size w w'∧UL (Bs.of w'.heap.size) [(1,0),(2,0)] v w':=by
 have HF:=lH (show UL (Bs.of (w.alloc (.cells #[.int .i64 1,.int .i64 0,.int .i64 2,.int .i64 0] 50)).heap.size) [(1,0),(2,0)] (.slice (some ⟨w.heap.size,0,none⟩) 2 2) (w.alloc (.cells #[.int .i64 1,.int .i64 0,.int .i64 2,.int .i64 0] 50)) from by
  have hb:=heap_alloc_new w (.cells #[.int .i64 1,.int .i64 0,.int .i64 2,.int .i64 0] 50)
  refine ⟨_,2,rfl,.inr ⟨w.heap.size,0,rfl,lt_of_some hb,.inl (lt_of_some hb),fun i x hx=>⟨_,rfl,fun j u hu=>?_⟩⟩⟩
  rw [Nat.zero_add,cell_is hb]
  match i,hx with
  | 0,hx=>obtain rfl:=Option.some.inj hx;match j,hu with
   | 0,hu=>exact hu
   | 1,hu=>exact hu
  | 1,hx=>obtain rfl:=Option.some.inj hx;match j,hu with
   | 0,hu=>exact hu
   | 1,hu=>exact hu)
 go_enter Tryz.func12,Tryz.ntmps12
 go_wp2
 go_ret
 exact ⟨_,rfl,below1 _ _,HF.out⟩
theorem fresh_any (n : Nat) (w : World) (hn : n≤w.heap.size) : Calls Tryz.prog 19 #[] w fun e w'=>∃ v,e=.returned v∧Below w.heap.size w w'∧XV n x0 v w':=by
 obtain ⟨V,hV⟩ : ∃ V,V=w.alloc (.cells nil5 28):=⟨_,rfl⟩
 have hbV : Below w.heap.size w V:=hV ▸ below1 w _
 have hb0 : V.heap[w.heap.size]?=some (.cells nil5 28 (0,0)):=by rw [hV];exact heap_alloc_new _ _
 have HB0:=lH hb0
 have HBV:=lH hbV
 have Hn:=lH hn
 have HV:=lH hV
 clear hV hbV hb0 hn
 go_enter Tryz.func19,Tryz.ntmps19
 go_wp2_with fail
 rw [← HV.out]
 refine (pairs_any V).mono ?_
 rintro e w2 ⟨v2,rfl,hb2,hu⟩
 have hw2:=nx HBV.out hb2
 have HN:=lH (newX_any n _ _ w2 hu (Nat.le_trans Hn.out hw2.size) (by decide))
 rw [newP_0,show newXE [(1,0),(2,0)]=0 from by kernel_rfl] at HN
 obtain ⟨a9,m9,c9,rfl⟩ : ∃ a m c,v2=.slice a m c:=by obtain ⟨a,c,h⟩:=hu.len;exact ⟨a,_,c,h⟩
 clear hu
 go_wp2_with fail
 refine HN.out.mono ?_
 rintro e w3 ⟨v3,rfl,hb3,hx3⟩
 obtain ⟨_,_,_,_,_,rfl,hd⟩:=hx3
 obtain ⟨a1,d1,a2,d2,a3,d3,a4,d4,a5,d5,rfl,rfl,rfl,rfl,rfl⟩:=hd.open'
 have hw3:=nx hw2 hb3
 obtain ⟨M,hM⟩ : ∃ M,M=w3.alloc (.cells #[.slice a1 0 d1,.slice a2 2 d2,.slice a3 0 d3,.slice a4 0 d4,.slice a5 0 d5] 28):=⟨_,rfl⟩
 have hbM : Below w3.heap.size w3 M:=hM ▸ below1 w3 _
 have hbb : M.heap[w.heap.size]?=some (.cells nil5 28 (0,0)):=((nx (nx hb2 hb3) hbM).block _ (lt_of_some HB0.out)).trans HB0.out
 have r1 : row M w3.heap.size=#[.slice a1 0 d1,.slice a2 2 d2,.slice a3 0 d3,.slice a4 0 d4,.slice a5 0 d5]:=by rw [hM];exact row_is (heap_alloc_new _ _)
 have p1 : plain 5 M w.heap.size=true:=plain_is hbb rfl
 obtain ⟨Z,hZ⟩ : ∃ Z,Z=M.setRow w.heap.size #[.slice a1 0 d1,.slice a2 2 d2,.slice a3 0 d3,.slice a4 0 d4,.slice a5 0 d5]:=⟨_,rfl⟩
 have HF:=lH (show Below w.heap.size w Z∧XV n x0 (.agg #[.slice a1 0 d1,.slice a2 2 d2,.slice a3 0 d3,.slice a4 0 d4,.slice a5 0 d5]) Z∧row Z w.heap.size=#[.slice a1 0 d1,.slice a2 2 d2,.slice a3 0 d3,.slice a4 0 d4,.slice a5 0 d5] from
  ⟨by rw [hZ];exact below_setRow (nx hw3 hbM) (Nat.le_refl _) _,⟨_,_,_,_,_,rfl,(hd.stays hbM).keep (by rw [hZ];exact Bk.keeps_setRow (B:=Bs.of n) _ hbb (by decide) Hn.out)⟩,by rw [hZ];exact row_set _ p1⟩)
 rw [hM] at r1 p1 hZ
 have HZ:=lH hZ
 clear hM hbM hbb hZ hd hw3 hw2 hb3 hb2
 go_wp2
 rw [← HZ.out]
 refine bodyPost_ret (v:=.agg #[.slice a1 0 d1,.slice a2 2 d2,.slice a3 0 d3,.slice a4 0 d4,.slice a5 0 d5]) (ret_X1 Tryz.results19 _ _ rfl ?c1) rfl ⟨_,rfl,HF.out.1,HF.out.2.1⟩
 case c1=>exact HF.out.2.2
theorem infoC : (Tryz.prog.info? 35).map (fun i=>(i.zero,i.size,i.bytes))=some (some (.agg (fc Cm.zeroF)),9,72):=by kernel_rfl
abbrev cells36 : Array Value:=fc k1++(fc k2++(fc k2++fc k3))
theorem buildK1 (w : World) : (Instr.build 35 #[(0,.int .i64 1),(1,.int .i64 1),(2,.int .i64 1),(4,.int .i64 0),(8,.int .i64 100)]).run Tryz.prog w=.ok (.agg (fc k1)) w:=run_build w _ _ _ (by kernel_rfl)
theorem buildK2 (w : World) : (Instr.build 35 #[(0,.int .i64 1),(1,.int .i64 2),(2,.int .i64 3),(6,.int .i64 1),(7,.int .i64 10),(8,.int .i64 5)]).run Tryz.prog w=.ok (.agg (fc k2)) w:=run_build w _ _ _ (by kernel_rfl)
theorem buildK3 (w : World) : (Instr.build 35 #[(0,.int .i64 1),(1,.int .i64 1),(2,.int .i64 7)]).run Tryz.prog w=.ok (.agg (fc k3)) w:=run_build w _ _ _ (by kernel_rfl)
theorem build36 (w : World) : (Instr.buildSlice 22 4 #[(0,.agg (fc k1)),(1,.agg (fc k2)),(2,.agg (fc k2)),(3,.agg (fc k3))]).run Tryz.prog w=.ok (.slice (some ⟨w.heap.size,0,none⟩) 4 4) (w.alloc (.cells cells36 35)):=by
 obtain ⟨i,h1,h2,h3,h4⟩:=info_parts infoC
 exact run_buildSlice w 22 35 4 _ cells36 i _ Tryz.underlying22 h1 h2 (by rw [h3];decide) (by rw [h3];decide) (by rw [h3];kernel_rfl)
section
variable (ρ : Operand→Value) (dst : Option Tmp) (ty : TypeId) (pos : String) (after : Array Edge) (guard : Option (Nat × Bool)) (w : World)
theorem exK1 (p0 p1 p2 p4 p8 : Operand) (h0 : ρ p0=.int .i64 1) (h1 : ρ p1=.int .i64 1) (h2 : ρ p2=.int .i64 1) (h4 : ρ p4=.int .i64 0) (h8 : ρ p8=.int .i64 100) :
  (execOp ρ { dst,op:=.build 35 #[(0,p0),(1,p1),(2,p2),(4,p4),(8,p8)],type:=ty,pos,after,guard }).run Tryz.prog w=.ok (.value (.agg (fc k1))) w:=by
 simp [execOp,h0,h1,h2,h4,h8,buildK1]
theorem exK2 (p0 p1 p2 p6 p7 p8 : Operand) (h0 : ρ p0=.int .i64 1) (h1 : ρ p1=.int .i64 2) (h2 : ρ p2=.int .i64 3) (h6 : ρ p6=.int .i64 1) (h7 : ρ p7=.int .i64 10) (h8 : ρ p8=.int .i64 5) :
  (execOp ρ { dst,op:=.build 35 #[(0,p0),(1,p1),(2,p2),(6,p6),(7,p7),(8,p8)],type:=ty,pos,after,guard }).run Tryz.prog w=.ok (.value (.agg (fc k2))) w:=by
 simp [execOp,h0,h1,h2,h6,h7,h8,buildK2]
theorem exK3 (p0 p1 p2 : Operand) (h0 : ρ p0=.int .i64 1) (h1 : ρ p1=.int .i64 1) (h2 : ρ p2=.int .i64 7) :
  (execOp ρ { dst,op:=.build 35 #[(0,p0),(1,p1),(2,p2)],type:=ty,pos,after,guard }).run Tryz.prog w=.ok (.value (.agg (fc k3))) w:=by
 simp [execOp,h0,h1,h2,buildK3]
theorem ex36 (a b c d : Operand) (h0 : ρ a=.agg (fc k1)) (h1 : ρ b=.agg (fc k2)) (h2 : ρ c=.agg (fc k2)) (h3 : ρ d=.agg (fc k3)) :
  (execOp ρ { dst,op:=.buildSlice 22 4 #[(0,a),(1,b),(2,c),(3,d)],type:=ty,pos,after,guard }).run Tryz.prog w=.ok (.value (.slice (some ⟨w.heap.size,0,none⟩) 4 4)) (w.alloc (.cells cells36 35)):=by
 simp [execOp,h0,h1,h2,h3,build36]
end
theorem nineK (a b c d e f g h i : Int) : Nine (v9 a b c d e f g h i):=⟨a,b,c,d,e,f,g,h,i,rfl⟩
theorem cl36 (w : World) : CL (Bs.of (w.alloc (.cells cells36 35)).heap.size) [k1,k2,k2,k3] (.slice (some ⟨w.heap.size,0,none⟩) 4 4) (w.alloc (.cells cells36 35)):=by
 have hb:=heap_alloc_new w (.cells cells36 35)
 refine ⟨_,4,rfl,.inr ⟨w.heap.size,0,rfl,lt_of_some hb,.inl (lt_of_some hb),fun i x hx=>⟨_,rfl,fun j u hu=>?_⟩⟩⟩
 rw [Nat.zero_add,cell_is hb]
 have hj : j<9:=by have:=(List.getElem?_eq_some_iff.1 hu).1;simpa [Cm.fc_size] using this
 match i,hx with
 | 0,hx=>obtain rfl:=Option.some.inj hx;match j,hj,hu with
  | 0,_,hu | 1,_,hu | 2,_,hu | 3,_,hu | 4,_,hu | 5,_,hu | 6,_,hu | 7,_,hu | 8,_,hu=>exact hu
 | 1,hx=>obtain rfl:=Option.some.inj hx;match j,hj,hu with
  | 0,_,hu | 1,_,hu | 2,_,hu | 3,_,hu | 4,_,hu | 5,_,hu | 6,_,hu | 7,_,hu | 8,_,hu=>exact hu
 | 2,hx=>obtain rfl:=Option.some.inj hx;match j,hj,hu with
  | 0,_,hu | 1,_,hu | 2,_,hu | 3,_,hu | 4,_,hu | 5,_,hu | 6,_,hu | 7,_,hu | 8,_,hu=>exact hu
 | 3,hx=>obtain rfl:=Option.some.inj hx;match j,hj,hu with
  | 0,_,hu | 1,_,hu | 2,_,hu | 3,_,hu | 4,_,hu | 5,_,hu | 6,_,hu | 7,_,hu | 8,_,hu=>exact hu
end Go.Proofs.YtjhocpcpkemcaaaGreat.Ex
namespace Go.Proofs.YtjhocpcpkemcaaaGreat.Ex
open Go.RowKit
open Rw
open Da
open La (Ln LN cN)
open Ac (Hd Pu HL)
open Cm (fc fc_at v9)
open Se (Rp z5 cR)
attribute [local go_sem ↓] exK1 exK2 exK3 ex36
theorem awake_any (w : World) : Calls Tryz.prog 10 #[] w fun e w'=>e=.returned (.bool true)∧Below w.heap.size w w':=by
 go_enter Tryz.func10,Tryz.ntmps10
 go_wp2_with fail
 refine (fresh_any w.heap.size w (Nat.le_refl _)).mono ?_
 rintro e w1 ⟨v1,rfl,hb1,hx1⟩
 have HX1:=lH hx1
 have HB1:=lH hb1
 obtain ⟨_,_,_,_,_,rfl,hd⟩:=hx1
 obtain ⟨a1,d1,a2,d2,a3,d3,a4,d4,a5,d5,rfl,rfl,rfl,rfl,rfl⟩:=hd.open'
 obtain ⟨V,hV⟩ : ∃ V,V=w1.alloc (.cells cells36 35):=⟨_,rfl⟩
 have hbV : Below w1.heap.size w1 V:=hV ▸ below1 w1 _
 have hcl : CL (Bs.of V.heap.size) [k1,k2,k2,k3] (.slice (some ⟨w1.heap.size,0,none⟩) 4 4) V:=by rw [hV];exact cl36 w1
 have HRn:=lH (runX_any w.heap.size x0 _ [k1,k2,k2,k3] _ V (HX1.out.stays hbV) (nx hb1 hbV).size (smX_right r0) hcl (by decide) (fun c hc=>by
  simp only [List.mem_cons,List.not_mem_nil,or_false] at hc
  rcases hc with rfl | rfl | rfl | rfl<;>exact nineK _ _ _ _ _ _ _ _ _))
 rw [awX,awR] at HRn
 have HBV:=lH (nx hb1 hbV)
 have HV:=lH hV
 clear hd hb1 hV hbV hcl
 go_wp2_with fail
 rw [← HV.out]
 refine HRn.out.mono ?_
 rintro e w2 ⟨v2,g,c,rfl,hb2,hx2,hlot⟩
 obtain ⟨_,_,_,_,_,rfl,hd⟩:=hx2
 obtain ⟨a1,d1,a2,d2,a3,d3,a4,d4,a5,d5,rfl,rfl,rfl,rfl,rfl⟩:=hd.open'
 obtain ⟨W,hW⟩ : ∃ W,W=w2.alloc (.cells #[.slice a1 1 d1,.slice a2 2 d2,.slice a3 1 d3,.slice a4 1 d4,.slice a5 0 d5] 28):=⟨_,rfl⟩
 have hbW : Below w2.heap.size w2 W:=hW ▸ below1 w2 _
 have hbx : W.heap[w2.heap.size]?=some (.cells #[.slice a1 1 d1,.slice a2 2 d2,.slice a3 1 d3,.slice a4 1 d4,.slice a5 0 d5] 28 (0,0)):=by rw [hW];exact heap_alloc_new _ _
 have HX:=lH (show ∀ u,Below W.heap.size W u→XD w.heap.size x2 (.slice a1 1 d1) (.slice a2 2 d2) (.slice a3 1 d3) (.slice a4 1 d4) (.slice a5 0 d5) u∧w.heap.size≤u.heap.size from fun u hu=>⟨hd.stays (nx hbW hu),(nx (nx HBV.out hb2) (nx hbW hu)).size⟩)
 have hc : ∀ u,Below W.heap.size W u→∀ (i : Nat) (r : Rp),[((1 : Int),(1 : Int),(0 : Int),(100 : Int),(0 : Int)),(1,2,0,1,0),(1,2,0,1,0),(1,1,13,0,0)][i]?=some r→∀ (j : Nat) (y : Value),(fR.f r)[j]?=some y→u.cell? ⟨g,i*5+j,none⟩=some y:=fun u hu i r hr j y hy=>by
  obtain ⟨_,_,h3⟩:=(hlot.stays (nx hbW hu)).ls
  obtain ⟨cs,hcs,h4⟩:=h3 i r hr
  obtain rfl : cs=fR.f r:=hcs
  have:=h4 j y hy
  rw [Nat.zero_add] at this;exact this
 have hF : ∀ u,Below W.heap.size W u→u.cell? ⟨g,3,none⟩=some (.int .i64 100)∧u.cell? ⟨g,5,none⟩=some (.int .i64 1)∧u.cell? ⟨g,6,none⟩=some (.int .i64 2)∧u.cell? ⟨g,7,none⟩=some (.int .i64 0)∧u.cell? ⟨g,8,none⟩=some (.int .i64 1)∧u.cell? ⟨g,9,none⟩=some (.int .i64 0)∧u.cell? ⟨g,10,none⟩=some (.int .i64 1)∧u.cell? ⟨g,11,none⟩=some (.int .i64 2)∧u.cell? ⟨g,12,none⟩=some (.int .i64 0)∧u.cell? ⟨g,13,none⟩=some (.int .i64 1)∧u.cell? ⟨g,14,none⟩=some (.int .i64 0)∧u.cell? ⟨g,17,none⟩=some (.int .i64 13)∧u.cell? ⟨w2.heap.size,0,none⟩=some (.slice a1 1 d1)∧row u w2.heap.size=#[.slice a1 1 d1,.slice a2 2 d2,.slice a3 1 d3,.slice a4 1 d4,.slice a5 0 d5]:=fun u hu=>by
  have hb:=(hu.block _ (lt_of_some hbx)).trans hbx
  have k:=hc u hu
  exact ⟨k 0 _ rfl 3 _ rfl,k 1 _ rfl 0 _ rfl,k 1 _ rfl 1 _ rfl,k 1 _ rfl 2 _ rfl,k 1 _ rfl 3 _ rfl,k 1 _ rfl 4 _ rfl,k 2 _ rfl 0 _ rfl,k 2 _ rfl 1 _ rfl,k 2 _ rfl 2 _ rfl,k 2 _ rfl 3 _ rfl,k 2 _ rfl 4 _ rfl,k 3 _ rfl 2 _ rfl,cell_is hb,row_is hb⟩
 have HBW:=lH (nx (nx HBV.out hb2) hbW)
 have HW:=lH hW
 have HG:=lH awG
 have HT:=lH awT
 clear hd hlot hW hbW hbx hc hb2
 go_wp2_with fail
 rw [← HW.out]
 refine Rh.rb [0,1,2,3,4,5,6,7,8,9,10,11,12,13,14,15,16,17,18,19,20,21,22,23,24,25,26,27,28,29,30,31,32,33,34,35,36,37,38,39,40,41,42,43,44] ?_
 repeat (first | (refine Rh.Steps.sk ?_;simp only [Act.put,sA,sB,sC]) | (refine Rh.Steps.pu (v:=?_) ?_ ?_;rotate_left;(intro w_ hS_;have hk_:=hF w_ hS_;go_simp<;>with_reducible rfl);simp only [Act.put,sA,sB,sC]) | (refine Rh.Steps.ca (v:=?_) (f:=?_) (args:=?_) ?_ ?_ ?_;rotate_left 3;(intro w_ hS_;have hk_:=hF w_ hS_;go_simp<;>first | with_reducible rfl | (constructor<;>with_reducible rfl));(intro w_ hS_;have hk_:=hF w_ hS_;first | (go_at_call 24;refine (get_is HG (HX.out w_ hS_).1.free (by decide)).mono ?_;first | (rintro e w_ ⟨rfl,rfl⟩;refine ⟨?_,Below.refl _ _⟩;with_reducible rfl) | (rintro e w_ ⟨rfl,hb_⟩;refine ⟨?_,hb_⟩;with_reducible rfl)) | (go_at_call 21;refine (rightX_is HT ⟨_,_,_,_,_,rfl,(HX.out w_ hS_).1⟩ (HX.out w_ hS_).2 (smX_right r2)).mono ?_;first | (rintro e w_ ⟨rfl,rfl⟩;refine ⟨?_,Below.refl _ _⟩;with_reducible rfl) | (rintro e w_ ⟨rfl,hb_⟩;refine ⟨?_,hb_⟩;with_reducible rfl)));simp only [Act.put,sA,sB,sC]))
 refine Rh.Steps.nil (by kernel_rfl) ?_
 intro w9 hb9 _
 have hfin:=nx HBW.out hb9
 clear hF
 go_wp2
 go_ret
 exact ⟨rfl,hfin⟩
end Go.Proofs.YtjhocpcpkemcaaaGreat.Ex
namespace Go.Proofs.YtjhocpcpkemcaaaGreat.Le
open Go.RowKit
open Go.ChangeShapes Go.WideShapes Go.Deep
open Rw
open Da
theorem cellsI : Tryz.prog.cellsOf 3=1:=by kernel_rfl
theorem cell_block {w : World} {p : Addr} {v : Value} (h : w.cell? p=some v) : p.block<w.heap.size:=by
 apply Nat.lt_of_not_le
 intro hc
 have : w.heap[p.block]?=none:=Array.getElem?_eq_none hc
 unfold World.cell? at h
 simp [this] at h
theorem is_of {α : Type} [Inhabited α] (e : Enc α) (T : TypeId) (h0 : 0<e.k) (w : World) (a : Addr) (len c : Nat) (good : α→Prop)
  (h : ∀ i,i<len→∃ x cs,good x∧e.R (Bs.of w.heap.size) x cs w∧∀ j u,cs[j]?=some u→w.cell? ((a.add (i*e.k)).add j)=some u) : ∃ l,Is e T (Bs.of w.heap.size) l (.slice (some a) len c) w∧l.length=len∧∀ x∈l,good x:=by
 classical
 have hg : ∀ i,∃ x,i<len→good x∧∃ cs,e.R (Bs.of w.heap.size) x cs w∧∀ j u,cs[j]?=some u→w.cell? ((a.add (i*e.k)).add j)=some u:=fun i=>by
  by_cases hi : i<len
  ·obtain ⟨x,cs,h1,h2,h3⟩:=h i hi;exact ⟨x,fun _=>⟨h1,cs,h2,h3⟩⟩
  ·exact ⟨default,fun e=>absurd e hi⟩
 let f:=fun i=>Classical.choose (hg i)
 have hf : ∀ i,i<len→good (f i)∧∃ cs,e.R (Bs.of w.heap.size) (f i) cs w∧∀ j u,cs[j]?=some u→w.cell? ((a.add (i*e.k)).add j)=some u:=fun i=>Classical.choose_spec (hg i)
 have hlen : ((List.range len).map f).length=len:=by simp
 refine ⟨(List.range len).map f,⟨some a,c,by rw [hlen],?_⟩,hlen,fun x hx=>?_⟩
 ·by_cases e0 : len=0
  ·left;subst e0;exact ⟨rfl,fun e=>by cases e⟩
  ·right
   obtain ⟨_,cs,hR,hu⟩:=hf 0 (by omega)
   have h1 : 0<cs.length:=by rw [e.len hR];exact h0
   have h2:=hu 0 _ (List.getElem?_eq_getElem h1)
   have h3:=World.cell?_spot h2
   obtain ⟨b,off,spot⟩:=a
   obtain rfl : spot=none:=by simpa [Addr.add] using h3
   have h4:=cell_block h2
   rw [add_eq,add_eq] at h4
   refine ⟨b,off,rfl,h4,.inl h4,fun i x hx=>?_⟩
   have hi : i<len:=by
    rcases Nat.lt_or_ge i len with h | h
    ·exact h
    ·rw [List.getElem?_eq_none (by rw [hlen];exact h)] at hx;cases hx
   have e2 : f i=x:=by simpa [hi] using hx
   subst e2
   obtain ⟨_,ds,hR2,hu2⟩:=hf i hi
   refine ⟨ds,hR2,fun j u hj=>?_⟩
   have:=hu2 j u hj
   rwa [add_eq,add_eq] at this
 ·obtain ⟨i,hi,rfl⟩:=List.mem_map.1 hx
  exact (hf i (List.mem_range.1 hi)).1
theorem one_of {H : Type} {en : TypeId × Value→H} {w : World} {base n : Nat} {sp : Nat→Bool} {held : Bool} {cs : List Value} {y : DataW H × List MemPlace} (j : Nat)
  (h : DataW.trod en Tryz.prog w base sp held n 3 ((cs.drop j).take 1)=some y) : ∃ x,cs[j]?=some (.int .i64 x)∧(Lit.int .i64 x).wf=true:=by
 obtain ⟨x,e,_,hw⟩:=DataW.trod_int Tryz.underlying3 h
 refine ⟨x,?_,hw⟩
 have e2 : ((cs.drop j).take 1)[0]?=some (.int .i64 x):=by rw [e];rfl
 simpa using e2
theorem fld {H : Type} {en : TypeId × Value→H} {w : World} {base n o k : Nat} {sp : Nat→Bool} {held : Bool} {t : TypeId} {cs : List Value} {y : DataW H × List MemPlace} {f : Field} (ht : f.type=t) (ho : f.offset=o) (hk : Tryz.prog.cellsOf t=k)
  (h : DataW.trod en Tryz.prog w base sp held n f.type ((cs.drop f.offset).take (Tryz.prog.cellsOf f.type))=some y) : DataW.trod en Tryz.prog w base sp held n t ((cs.drop o).take k)=some y:=by
 subst ht ho hk;exact h
end Go.Proofs.YtjhocpcpkemcaaaGreat.Le
namespace Go.Proofs.YtjhocpcpkemcaaaGreat.Ex
open Go.RowKit
open Go.ChangeShapes Go.WideShapes Go.Deep
open Rw
open Da
open Le (is_of fld one_of cellsI)
open Ac (Pu)
open Se (ret_bool)
theorem cellsU : Tryz.prog.cellsOf 50=2:=by kernel_rfl
theorem open_pus {H : Type} {en : TypeId × Value→H} {w : World} {base fuel : Nat} {sp : Nat→Bool} {held : Bool} {a : Option Addr} {n c : Nat} {x : DataW H × List MemPlace}
  (h : DataW.trod en Tryz.prog w base sp held fuel 32 (Value.slice a n c).cells.toList=some x) : ∃ l,UL (Bs.of w.heap.size) l (.slice a n c) w∧l.length≤maxLen:=by
 rcases open_slice Tryz.underlying32 h with ⟨hcs,_⟩ | ⟨ad,len,cap,m,n',D,Pl,hcs,_,hl,hcap,hm,_,hi⟩
 ·simp [Value.cells] at hcs
  obtain ⟨rfl,rfl,rfl⟩:=hcs
  exact ⟨[],Is.nil _ _ _ _,Nat.zero_le _⟩
 ·simp [Value.cells] at hcs
  obtain ⟨rfl,rfl,rfl⟩:=hcs
  suffices h : ∃ l,UL (Bs.of w.heap.size) l (.slice (some ad) n c) w∧l.length=n∧∀ o∈l,(fun _ : Pu=>True) o by
   obtain ⟨l,h1,h2,_⟩:=h
   exact ⟨l,h1,by omega⟩
  refine is_of eU 50 (by decide) w ad n c (fun _=>True) fun i hlt=>?_
  obtain ⟨cs,hc,ht⟩:=hi i (by rw [hm];split<;>omega)
  rw [cellsU] at hc
  obtain ⟨_,hcl,hat⟩:=World.cells?_some hc
  obtain ⟨ys,n1,_,_,_,hyl,hf⟩:=DataW.trod_struct Tryz.underlying50 ht
  have g0:=fld (o:=0) (t:=3) rfl rfl cellsI ((hf 0 _ rfl).trans (List.getElem?_eq_getElem (by rw [hyl];decide)))
  have g1:=fld (o:=1) (t:=3) rfl rfl cellsI ((hf 1 _ rfl).trans (List.getElem?_eq_getElem (by rw [hyl];decide)))
  obtain ⟨x0,e0,w0⟩:=one_of 0 g0
  obtain ⟨x1,e1,w1⟩:=one_of 1 g1
  refine ⟨(x0,x1),[.int .i64 x0,.int .i64 x1],trivial,rfl,fun j u hu=>?_⟩
  show w.cell? ((ad.add (i*2)).add j)=some u
  match j,hu with
  | 0,hu=>obtain rfl:=Option.some.inj hu;rw [hat 0 (by omega),e0]
  | 1,hu=>obtain rfl:=Option.some.inj hu;rw [hat 1 (by omega),e1]
  | j+2,hu=>cases hu
theorem newX_right (l : List Pu) : RightX (newXX l):=by
 unfold newXX
 split
 ·rename_i h
  unfold newXE at h
  by_cases h6 : 6<l.length
  ·rw [if_pos h6] at h;cases h
  ·rw [if_neg h6] at h
   by_cases ha : l.all okP=true
   ·refine ⟨by show (l.map nwP).length≤6;rw [List.length_map];omega,fun n hn=>?_,Ac.Right.nil,Ac.Right.nil,Ac.Right.nil,Se.Right.nil⟩
    obtain ⟨p,hp,rfl⟩:=List.mem_map.1 hn
    have e : La.pairOk p.1 p.2=true:=List.all_eq_true.1 ha p hp
    exact La.right_newN e
   ·rw [if_neg ha] at h;cases h
 ·exact RightX.mk (by simp) (fun _ h=>nomatch h) Ac.Right.nil Ac.Right.nil Ac.Right.nil Se.Right.nil
theorem walkBegins (l : List Pu) (v : Value) (w : World) (h : UL (Bs.of w.heap.size) l v w) (hl : l.length≤maxLen) :
  Calls Tryz.prog 4 #[v] w fun e w'=>e=.returned (.bool true)∧Below w.heap.size w w':=by
 have HU:=lH h
 obtain ⟨a0,c0,rfl,hel⟩:=h
 obtain ⟨N,hN⟩ : ∃ N,N=l.length:=⟨_,rfl⟩
 rw [← hN] at HU ⊢
 by_cases h50 : 50<N
 ·have hd1 : decide ((50 : Int)<N)=true:=decide_eq_true (by omega)
  clear hel hN h50 hl HU
  go_enter Tryz.func4,Tryz.ntmps4
  go_wp2_with fail
  refine (awake_any w).mono ?_
  rintro e w1 ⟨rfl,hb1⟩
  go_wp2
  go_ret
  exact ⟨rfl,hb1⟩
 have hd1 : decide ((50 : Int)<N)=false:=decide_eq_false (by omega)
 have HN:=lH (show l.length≤1000000 by omega)
 obtain ⟨x,hx⟩ : ∃ x,newXX l=x:=⟨_,rfl⟩
 obtain ⟨E,hE⟩ : ∃ E,newXE l=E:=⟨_,rfl⟩
 have HR:=lH (show RightX x from hx ▸ newX_right l)
 have HXE:=lH (And.intro hx hE)
 clear hel hN hl h50 hx hE
 have H1:=newX_any w.heap.size l _ w HU.out (Nat.le_refl _) HN.out
 rw [HXE.out.1,HXE.out.2] at H1
 have H1:=lH H1
 go_enter Tryz.func4,Tryz.ntmps4
 go_wp2_with fail
 with_reducible refine H1.out.mono ?_
 rintro e w1 ⟨v1,rfl,hb1,hx1⟩
 obtain ⟨_,_,_,_,_,rfl,d1⟩:=hx1
 obtain ⟨p1,q1,p2,q2,p3,q3,p4,q4,p5,q5,rfl,rfl,rfl,rfl,rfl⟩:=d1.open'
 obtain ⟨V,hV⟩ : ∃ V,V=w1.alloc (.cells #[.slice p1 x.free.length q1,.slice p2 x.lanes.length q2,.slice p3 x.sess.length q3,.slice p4 x.inn.length q4,.slice p5 x.out.length q5] 28):=⟨_,rfl⟩
 have hbV : Below w1.heap.size w1 V:=hV ▸ below1 w1 _
 have hwV:=nx hb1 hbV
 have HX0:=lH (show XB w.heap.size x (.slice p1 x.free.length q1) (.slice p2 x.lanes.length q2) (.slice p3 x.sess.length q3) (.slice p4 x.inn.length q4) (.slice p5 x.out.length q5) w1.heap.size V from by rw [hV];exact XB.made d1 hb1.size)
 have H2:=rNewX_any w.heap.size l _ V (Is.up _ _ (Bs.sub_of (show (Bs.of w.heap.size).le V.heap.size from ⟨hwV.size,fun _ h=>h.elim⟩)) (Is.stays _ _ HU.out hwV)) hwV.size HN.out
 rw [HXE.out.1,HXE.out.2] at H2
 have H2:=lH H2
 have HwV:=lH hwV
 have HV:=lH hV
 clear d1 hV hbV hwV hb1
 go_wp2_with fail
 rw [← HV.out]
 with_reducible refine H2.out.mono ?_
 rintro e w2 ⟨v2,rfl,hb2,hx2⟩
 obtain ⟨_,_,_,_,_,rfl,d2⟩:=hx2
 obtain ⟨s1,t1,s2,t2,s3,t3,s4,t4,s5,t5,rfl,rfl,rfl,rfl,rfl⟩:=d2.open'
 obtain ⟨W,hW⟩ : ∃ W,W=w2.alloc (.cells #[.slice s1 x.free.length t1,.slice s2 x.lanes.length t2,.slice s3 x.sess.length t3,.slice s4 x.inn.length t4,.slice s5 x.out.length t5] 28):=⟨_,rfl⟩
 have hbW : Below w2.heap.size w2 W:=hW ▸ below1 w2 _
 have hVW:=nx hb2 hbW
 have HF:=lH (show ∀ u,Below W.heap.size W u→XB w.heap.size x (.slice p1 x.free.length q1) (.slice p2 x.lanes.length q2) (.slice p3 x.sess.length q3) (.slice p4 x.inn.length q4) (.slice p5 x.out.length q5) w1.heap.size u∧XB w.heap.size x (.slice s1 x.free.length t1) (.slice s2 x.lanes.length t2) (.slice s3 x.sess.length t3) (.slice s4 x.inn.length t4) (.slice s5 x.out.length t5) w2.heap.size u∧w.heap.size≤u.heap.size from fun u hu =>
  ⟨HX0.out.stays (nx hVW hu),XB.stays (by rw [hW];exact XB.made d2 (nx HwV.out hb2).size) hu,(nx HwV.out (nx hVW hu)).size⟩)
 have HBW:=lH (nx HwV.out hVW)
 have HW:=lH hW
 have he : sameX x x=true:=sameX_yes ⟨rfl,rfl,rfl,rfl,rfl,fun i a b ha hb=>by rw [ha] at hb;obtain rfl:=Option.some.inj hb;exact ⟨rfl,rfl,rfl,rfl,rfl,rfl⟩⟩
 have hr : rightX x=true:=rightX_iff.2 HR.out
 have HS:=lH (show ∀ u,Below W.heap.size W u→_ from fun u hu=>by
  obtain ⟨k1,k2,k3⟩:=HF.out u hu
  have:=rSameX_any w.heap.size x x (.agg #[.slice p1 x.free.length q1,.slice p2 x.lanes.length q2,.slice p3 x.sess.length q3,.slice p4 x.inn.length q4,.slice p5 x.out.length q5]) (.agg #[.slice s1 x.free.length t1,.slice s2 x.lanes.length t2,.slice s3 x.sess.length t3,.slice s4 x.inn.length t4,.slice s5 x.out.length t5]) u ⟨_,_,_,_,_,rfl,k1.d⟩ ⟨_,_,_,_,_,rfl,k2.d⟩ k3 (smX_right HR.out) (smX_right HR.out)
  rw [he] at this
  exact this)
 have HRt:=lH (show ∀ u,Below W.heap.size W u→_ from fun u hu=>rightX_is (lH hr) (show XV w.heap.size x (.agg #[.slice p1 x.free.length q1,.slice p2 x.lanes.length q2,.slice p3 x.sess.length q3,.slice p4 x.inn.length q4,.slice p5 x.out.length q5]) u from ⟨_,_,_,_,_,rfl,(HF.out u hu).1.d⟩) (HF.out u hu).2.2 (smX_right HR.out))
 have HRr:=lH (show ∀ u,Below W.heap.size W u→_ from fun u hu=>by
  have:=rRightX_any w.heap.size x (.agg #[.slice s1 x.free.length t1,.slice s2 x.lanes.length t2,.slice s3 x.sess.length t3,.slice s4 x.inn.length t4,.slice s5 x.out.length t5]) u ⟨_,_,_,_,_,rfl,(HF.out u hu).2.1.d⟩ (HF.out u hu).2.2 (smX_right HR.out)
  rw [hr] at this
  exact this)
 have hF : ∀ u,Below W.heap.size W u→row u w1.heap.size=#[.slice p1 x.free.length q1,.slice p2 x.lanes.length q2,.slice p3 x.sess.length q3,.slice p4 x.inn.length q4,.slice p5 x.out.length q5]∧row u w2.heap.size=#[.slice s1 x.free.length t1,.slice s2 x.lanes.length t2,.slice s3 x.sess.length t3,.slice s4 x.inn.length t4,.slice s5 x.out.length t5]:=fun u hu=>⟨(HF.out u hu).1.row,(HF.out u hu).2.1.row⟩
 clear he hr d2 hW hbW hVW hb2
 go_wp2_with fail
 rw [← HW.out]
 refine Rh.rb [0,1,2,3,4,5,6,7,8,9,10,11,12,13,14,15,16,17,18] ?_
 repeat (first | (refine Rh.Steps.sk ?_;simp only [Act.put,sA,sB,sC]) | (refine Rh.Steps.pu (v:=?_) ?_ ?_;rotate_left;(intro w_ hS_;have hk_:=hF w_ hS_;go_simp<;>with_reducible rfl);simp only [Act.put,sA,sB,sC]) | (refine Rh.Steps.ca (v:=?_) (f:=?_) (args:=?_) ?_ ?_ ?_;rotate_left 3;(intro w_ hS_;have hk_:=hF w_ hS_;go_simp<;>first | with_reducible rfl | (constructor<;>with_reducible rfl));(intro w_ hS_;have hk_:=hF w_ hS_;first | (go_at_call 16;refine (HS.out w_ hS_).mono ?_;first | (rintro e w_ ⟨rfl,rfl⟩;refine ⟨?_,Below.refl _ _⟩;with_reducible rfl) | (rintro e w_ ⟨rfl,hb_⟩;refine ⟨?_,hb_⟩;with_reducible rfl)) | (go_at_call 21;refine (HRt.out w_ hS_).mono ?_;first | (rintro e w_ ⟨rfl,rfl⟩;refine ⟨?_,Below.refl _ _⟩;with_reducible rfl) | (rintro e w_ ⟨rfl,hb_⟩;refine ⟨?_,hb_⟩;with_reducible rfl)) | (go_at_call 22;refine (HRr.out w_ hS_).mono ?_;first | (rintro e w_ ⟨rfl,rfl⟩;refine ⟨?_,Below.refl _ _⟩;with_reducible rfl) | (rintro e w_ ⟨rfl,hb_⟩;refine ⟨?_,hb_⟩;with_reducible rfl)) | (go_at_call 10;refine (awake_any w_).mono ?_;first | (rintro e w_ ⟨rfl,rfl⟩;refine ⟨?_,Below.refl _ _⟩;with_reducible rfl) | (rintro e w_ ⟨rfl,hb_⟩;refine ⟨?_,hb_⟩;with_reducible rfl)));simp only [Act.put,sA,sB,sC]))
 refine Rh.Steps.nil (by kernel_rfl) ?_
 intro w9 hb9 _
 have hf:=nx HBW.out hb9
 clear hF
 go_wp2
 go_ret
 exact ⟨rfl,hf⟩
end Go.Proofs.YtjhocpcpkemcaaaGreat.Ex
