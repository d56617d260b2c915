/- Of the statements of layer 10: fills, holdings, orders, same: what they tell of equal ones. -/
import Derived.Test.YthecinmekoaphaaGreatQbZZ
import Derived.Test.YthecinmekoaphaaGreatQbAT
import Derived.Test.YthecinmekoaphaaGreatQbAU
import Derived.Test.YthecinmekoaphaaGreatQbAV
import Derived.Test.YthecinmekoaphaaGreatQbAZ
import Derived.Test.YthecinmekoaphaaGreatQbBB
import Derived.Test.YthecinmekoaphaaGreatQbAY
import Derived.RegionTactic
set_option linter.unusedVariables false
set_option maxRecDepth 16000
set_option maxHeartbeats 32000000
namespace Go.Proofs.YthecinmekoaphaaGreat.La
open Go.RowKit
open Rw
open Da
open Le
open Bk
open Ac (Hd Pu HL pmay pmay_iff tot total giveE giveL takeE takeL)
theorem fieldsFl : Tryz.prog.underlying 91=some (.struct (Tryz.prog.fieldsOf 91)):=by kernel_rfl
def eqF (a b : Fl) : Bool:=decide (a=b)
theorem runF (a b c d : Int) (e : Bool) (a' b' c' d' : Int) (e' : Bool) (w : World) : (Op.equalIn 10000 91 (.agg #[.int .i64 a,.int .i64 b,.int .i64 c,.int .i64 d,.bool e]) (.agg #[.int .i64 a',.int .i64 b',.int .i64 c',.int .i64 d',.bool e'])).run Tryz.prog w=.ok (eqF (a,b,c,d,e) (a',b',c',d',e')) w:=by
 rw [run_equalIn_agg w 9999 _ _ _ fieldsFl (by kernel_rfl)]
 simp only [Program.fieldsOf,Tryz.underlying91]
 simp [Op.eqFields,go_sem]
 by_cases h1 : a=a'<;>by_cases h2 : b=b'<;>by_cases h3 : c=c'<;>by_cases h4 : d=d'<;>cases e<;>cases e'<;>simp [eqF,h1,h2,h3,h4]
theorem eqlF (a b c d : Int) (e : Bool) (a' b' c' d' : Int) (e' : Bool) (w : World) : (binOp .eql 91 (.agg #[.int .i64 a,.int .i64 b,.int .i64 c,.int .i64 d,.bool e]) (.agg #[.int .i64 a',.int .i64 b',.int .i64 c',.int .i64 d',.bool e'])).run Tryz.prog w=.ok (.bool (eqF (a,b,c,d,e) (a',b',c',d',e'))) w:=by
 rw [run_eql_struct,runF];rfl
theorem neqF (a b c d : Int) (e : Bool) (a' b' c' d' : Int) (e' : Bool) (w : World) : (binOp .neq 91 (.agg #[.int .i64 a,.int .i64 b,.int .i64 c,.int .i64 d,.bool e]) (.agg #[.int .i64 a',.int .i64 b',.int .i64 c',.int .i64 d',.bool e'])).run Tryz.prog w=.ok (.bool (!eqF (a,b,c,d,e) (a',b',c',d',e'))) w:=by
 rw [run_neq_struct,runF];rfl
theorem guardF (op : BinOp) (p q : Operand) (a b c d : Int) (e : Bool) (a' b' c' d' : Int) (e' : Bool) (w : World) : (eqGuard op 91 p q (.agg #[.int .i64 a,.int .i64 b,.int .i64 c,.int .i64 d,.bool e]) (.agg #[.int .i64 a',.int .i64 b',.int .i64 c',.int .i64 d',.bool e'])).run Tryz.prog w=.ok () w :=
 run_eqGuard_agg w op _ p q _ _ (by kernel_rfl)
attribute [go_sem ↓] eqlF neqF guardF
theorem fills_yes {B B' : Bs} (l : List Fl) (v x : Value) (w : World) (h : FL B l v w) (k : FL B' l x w) (hm : l.length≤1000000) :
  Calls Tryz.prog 18 #[v,x] w fun e w'=>e=.returned (.bool true)∧Below w.heap.size w w':=by
 obtain ⟨a1,c1,rfl⟩:=h.len
 obtain ⟨a2,c2,rfl⟩:=k.len
 have HA:=lH h
 have HB:=lH k
 obtain ⟨n,hn⟩ : ∃ n,l.length=n:=⟨_,rfl⟩
 rw [hn] at hm ⊢
 have HN:=lH hn
 have hd : ((n : Int) != n)=false:=by simp
 clear h k hn
 go_enter Tryz.func18,Tryz.ntmps18
 go_wp2
 go_loopw [5,13] (fun _ i wr=>∃ k : Nat,k≤n∧i=.int .i64 k∧Below w.heap.size w wr) (fun _ i _=>n - (intOf i).toNat)
 case atStart=>exact ⟨0,Nat.zero_le _,rfl,Below.refl _ _⟩
 case round =>
  obtain ⟨k,hk,rfl,hb⟩:=hrel
  by_cases hlt : k<n
  ·have hlt2 : (k : Int)<n:=by omega
   have hkl : k<l.length:=by rw [HN.out];exact hlt
   rcases (Is.stays eFl 91 HA.out hb).cases with ⟨e,_⟩ | ⟨_,b,off,cc,e,hat⟩
   ·rw [e] at hkl;cases hkl
   rcases (Is.stays eFl 91 HB.out hb).cases with ⟨e2,_⟩ | ⟨_,b2,off2,cc2,e2,hat2⟩
   ·rw [e2] at hkl;cases hkl
   simp only [Value.slice.injEq] at e e2
   obtain ⟨rfl,_,rfl⟩:=e
   obtain ⟨rfl,_,rfl⟩:=e2
   have hbb:=hat.1
   have hbb2:=hat2.1
   obtain ⟨⟨x1,x2,x3,x4,x5⟩,hx⟩ : ∃ x,l[k]=x:=⟨_,rfl⟩
   have hc:=atFl hat k hkl
   have hd:=atFl hat2 k hkl
   rw [hx] at hc hd
   simp only at hc hd
   obtain ⟨p0,p1,p2,p3,p4⟩:=hc
   obtain ⟨s0,s1,s2,s3,s4⟩:=hd
   have hF : ∀ u,Below wr.heap.size wr u→u.cell? ⟨b,off+k*5,none⟩=some (.int .i64 x1)∧u.cell? ⟨b,off+k*5+1,none⟩=some (.int .i64 x2)∧u.cell? ⟨b,off+k*5+2,none⟩=some (.int .i64 x3)∧u.cell? ⟨b,off+k*5+3,none⟩=some (.int .i64 x4)∧u.cell? ⟨b,off+k*5+4,none⟩=some (.bool x5)∧u.cell? ⟨b2,off2+k*5,none⟩=some (.int .i64 x1)∧u.cell? ⟨b2,off2+k*5+1,none⟩=some (.int .i64 x2)∧u.cell? ⟨b2,off2+k*5+2,none⟩=some (.int .i64 x3)∧u.cell? ⟨b2,off2+k*5+3,none⟩=some (.int .i64 x4)∧u.cell? ⟨b2,off2+k*5+4,none⟩=some (.bool x5):=fun u hu=>by
    obtain ⟨c1,_⟩:=bcell hu
    simp only [c1 _ _ hbb,c1 _ _ hbb2]
    exact ⟨p0,p1,p2,p3,p4,s0,s1,s2,s3,s4⟩
   have hq : eqF (x1,x2,x3,x4,x5) (x1,x2,x3,x4,x5)=true:=by simp [eqF]
   clear p0 p1 p2 p3 p4 s0 s1 s2 s3 s4 hat hat2 hx hd
   go_wp2
   refine Rf.rg [0,1,2,3,4,5,6,7,8] ?_
   repeat (first | (refine Rf.Steps.sk ?_;simp only [Act.put,sA,sB,sC]) | (refine Rf.Steps.pu (v:=?_) ?_ ?_;rotate_left;(intro w_ hS_;have hk_:=hF w_ hS_;go_simp<;>with_reducible rfl);simp only [Act.put,sA,sB,sC]))
   refine Rf.Steps.nil (by kernel_rfl) ?_
   intro w4 hb6
   go_wp2
   go_roundw
   case rel=>exact ⟨k+1,by omega,by go_num,nx hb hb6⟩
   case measure=>simp [intOf];omega
  ·obtain rfl : k=n:=by omega
   go_wp2
   go_ret
   exact ⟨rfl,hb⟩
theorem orders_yes {B B' : Bs} (l : List Od) (v x : Value) (w : World) (h : OL B l v w) (k : OL B' l x w) (hm : l.length≤1000000) :
  Calls Tryz.prog 32 #[v,x] w fun e w'=>e=.returned (.bool true)∧Below w.heap.size w w':=by
 obtain ⟨a1,c1,rfl⟩:=h.len
 obtain ⟨a2,c2,rfl⟩:=k.len
 have HA:=lH h
 have HB:=lH k
 obtain ⟨n,hn⟩ : ∃ n,l.length=n:=⟨_,rfl⟩
 rw [hn] at hm ⊢
 have HN:=lH hn
 have hd : ((n : Int) != n)=false:=by simp
 clear h k hn
 go_enter Tryz.func32,Tryz.ntmps32
 go_wp2
 go_loopw [5,13] (fun _ i wr=>∃ k : Nat,k≤n∧i=.int .i64 k∧Below w.heap.size w wr) (fun _ i _=>n - (intOf i).toNat)
 case atStart=>exact ⟨0,Nat.zero_le _,rfl,Below.refl _ _⟩
 case round =>
  obtain ⟨k,hk,rfl,hb⟩:=hrel
  by_cases hlt : k<n
  ·have hlt2 : (k : Int)<n:=by omega
   have hkl : k<l.length:=by rw [HN.out];exact hlt
   rcases (Is.stays eO 70 HA.out hb).cases with ⟨e,_⟩ | ⟨_,b,off,cc,e,hat⟩
   ·rw [e] at hkl;cases hkl
   rcases (Is.stays eO 70 HB.out hb).cases with ⟨e2,_⟩ | ⟨_,b2,off2,cc2,e2,hat2⟩
   ·rw [e2] at hkl;cases hkl
   simp only [Value.slice.injEq] at e e2
   obtain ⟨rfl,_,rfl⟩:=e
   obtain ⟨rfl,_,rfl⟩:=e2
   have hbb:=hat.1
   have hbb2:=hat2.1
   obtain ⟨⟨x1,x2,x3,x4,x5⟩,hx⟩ : ∃ x,l[k]=x:=⟨_,rfl⟩
   have hc:=at5 hat k hkl
   have hd:=at5 hat2 k hkl
   rw [hx] at hc hd
   simp only at hc hd
   obtain ⟨p0,p1,p2,p3,p4⟩:=hc
   obtain ⟨s0,s1,s2,s3,s4⟩:=hd
   have hF : ∀ u,Below wr.heap.size wr u→u.cell? ⟨b,off+k*5,none⟩=some (.int .i64 x1)∧u.cell? ⟨b,off+k*5+1,none⟩=some (.int .i64 x2)∧u.cell? ⟨b,off+k*5+2,none⟩=some (.int .i64 x3)∧u.cell? ⟨b,off+k*5+3,none⟩=some (.int .i64 x4)∧u.cell? ⟨b,off+k*5+4,none⟩=some (.int .i64 x5)∧u.cell? ⟨b2,off2+k*5,none⟩=some (.int .i64 x1)∧u.cell? ⟨b2,off2+k*5+1,none⟩=some (.int .i64 x2)∧u.cell? ⟨b2,off2+k*5+2,none⟩=some (.int .i64 x3)∧u.cell? ⟨b2,off2+k*5+3,none⟩=some (.int .i64 x4)∧u.cell? ⟨b2,off2+k*5+4,none⟩=some (.int .i64 x5):=fun u hu=>by
    obtain ⟨c1,_⟩:=bcell hu
    simp only [c1 _ _ hbb,c1 _ _ hbb2]
    exact ⟨p0,p1,p2,p3,p4,s0,s1,s2,s3,s4⟩
   have hq : eqO (x1,x2,x3,x4,x5) (x1,x2,x3,x4,x5)=true:=by simp [eqO]
   clear p0 p1 p2 p3 p4 s0 s1 s2 s3 s4 hat hat2 hx hd
   go_wp2
   refine Rf.rg [0,1,2,3,4,5,6,7,8] ?_
   repeat (first | (refine Rf.Steps.sk ?_;simp only [Act.put,sA,sB,sC]) | (refine Rf.Steps.pu (v:=?_) ?_ ?_;rotate_left;(intro w_ hS_;have hk_:=hF w_ hS_;go_simp<;>with_reducible rfl);simp only [Act.put,sA,sB,sC]))
   refine Rf.Steps.nil (by kernel_rfl) ?_
   intro w4 hb6
   go_wp2
   go_roundw
   case rel=>exact ⟨k+1,by omega,by go_num,nx hb hb6⟩
   case measure=>simp [intOf];omega
  ·obtain rfl : k=n:=by omega
   go_wp2
   go_ret
   exact ⟨rfl,hb⟩
theorem holdings_yes {lo lo' : Nat} (l : List Hd) (v x : Value) (w : World) (h : HL lo l v w) (k : HL lo' l x w) (hm : l.length≤1000000) :
  Calls Tryz.prog 19 #[v,x] w fun e w'=>e=.returned (.bool true)∧Below w.heap.size w w':=by
 obtain ⟨a1,c1,rfl⟩:=hl_slice h
 obtain ⟨a2,c2,rfl⟩:=hl_slice k
 have HA:=lH h
 have HB:=lH k
 obtain ⟨n,hn⟩ : ∃ n,l.length=n:=⟨_,rfl⟩
 rw [hn] at hm ⊢
 have HN:=lH hn
 have hd : ((n : Int) != n)=false:=by simp
 clear h k hn
 go_enter Tryz.func19,Tryz.ntmps19
 go_wp2
 go_loopw [5,13] (fun _ i wr=>∃ k : Nat,k≤n∧i=.int .i64 k∧Below w.heap.size w wr) (fun _ i _=>n - (intOf i).toNat)
 case atStart=>exact ⟨0,Nat.zero_le _,rfl,Below.refl _ _⟩
 case round =>
  obtain ⟨k,hk,rfl,hb⟩:=hrel
  by_cases hlt : k<n
  ·have hlt2 : (k : Int)<n:=by omega
   have hkl : k<l.length:=by rw [HN.out];exact hlt
   rcases (hl_stays HA.out hb).cases with ⟨e,_⟩ | ⟨_,b,off,cc,e,hat⟩
   ·rw [e] at hkl;cases hkl
   rcases (hl_stays HB.out hb).cases with ⟨e2,_⟩ | ⟨_,b2,off2,cc2,e2,hat2⟩
   ·rw [e2] at hkl;cases hkl
   simp only [Value.slice.injEq] at e e2
   obtain ⟨rfl,_,rfl⟩:=e
   obtain ⟨rfl,_,rfl⟩:=e2
   have hbb:=hat.1
   have hbb2:=hat2.1
   obtain ⟨⟨x1,x2,x3⟩,hx⟩ : ∃ x,l[k]=x:=⟨_,rfl⟩
   have hc:=Ac.at3 hat k hkl
   have hd:=Ac.at3 hat2 k hkl
   rw [hx] at hc hd
   simp only at hc hd
   obtain ⟨p0,p1,p2⟩:=hc
   obtain ⟨s0,s1,s2⟩:=hd
   have hF : ∀ u,Below wr.heap.size wr u→u.cell? ⟨b,off+k*3,none⟩=some (.int .i64 x1)∧u.cell? ⟨b,off+k*3+1,none⟩=some (.int .i64 x2)∧u.cell? ⟨b,off+k*3+2,none⟩=some (.int .i64 x3)∧u.cell? ⟨b2,off2+k*3,none⟩=some (.int .i64 x1)∧u.cell? ⟨b2,off2+k*3+1,none⟩=some (.int .i64 x2)∧u.cell? ⟨b2,off2+k*3+2,none⟩=some (.int .i64 x3):=fun u hu=>by
    obtain ⟨c1,_⟩:=bcell hu
    simp only [c1 _ _ hbb,c1 _ _ hbb2]
    exact ⟨p0,p1,p2,s0,s1,s2⟩
   have hq : Ac.eqH (x1,x2,x3) (x1,x2,x3)=true:=by simp [Ac.eqH]
   clear p0 p1 p2 s0 s1 s2 hat hat2 hx hd
   go_wp2
   refine Rf.rg [0,1,2,3,4,5,6,7,8] ?_
   repeat (first | (refine Rf.Steps.sk ?_;simp only [Act.put,sA,sB,sC]) | (refine Rf.Steps.pu (v:=?_) ?_ ?_;rotate_left;(intro w_ hS_;have hk_:=hF w_ hS_;go_simp<;>with_reducible rfl);simp only [Act.put,sA,sB,sC]))
   refine Rf.Steps.nil (by kernel_rfl) ?_
   intro w4 hb6
   go_wp2
   go_roundw
   case rel=>exact ⟨k+1,by omega,by go_num,nx hb hb6⟩
   case measure=>simp [intOf];omega
  ·obtain rfl : k=n:=by omega
   go_wp2
   go_ret
   exact ⟨rfl,hb⟩
end Go.Proofs.YthecinmekoaphaaGreat.La
namespace Go.Proofs.YthecinmekoaphaaGreat.La
open Le
open Bk
open Ac (Hd Pu pmay pmay_iff tot total giveE giveL takeE takeL)
def placeC (l : Ln) (fr : List Hd) (ow s p q : Int) (rest : Bool) : PN :=
 let C:=plRes l.2.2.1 ow s p rest (tr ow s p (flat (oth l.2.2.1 s)) q)
 if C.2.2.2.2=0 then
  let S:=stl l.1 l.2.1 s C.2.1 l.2.2.2 0 0
  if S.2.2.2=0 then fin l fr ow s p C S else (l,fr,[],0,S.2.2.2)
 else (l,fr,[],0,C.2.2.2.2)
theorem placeN_eval {l : Ln} {fr : List Hd} {ow s p q : Int} {rest : Bool} (h : RightN l) (hf : Ac.Right fr) (ha : argOk ow s p q=true) : placeN l fr ow s p q rest=placeC l fr ow s p q rest:=by
 unfold placeN placeC
 rw [rightN_iff.2 h,Ac.right_iff.2 hf,if_pos (by rfl),place_tr h.book ha]
def collectC (l : Ln) (fr : List Hd) (ow : Int) : Ln × List Hd × Int × Int × Int :=
 let x:=Ac.get l.2.2.2 (ow,l.1)
 let y:=Ac.get l.2.2.2 (ow,l.2.1)
 if x=0∧y=0 then (l,fr,0,0,16)
 else if giveE fr (ow,l.1) x=0 then
  if giveE (giveL fr (ow,l.1) x) (ow,l.2.1) y=0 then
   ((l.1,l.2.1,l.2.2.1,takeL (takeL l.2.2.2 (ow,l.1) x) (ow,l.2.1) y),giveL (giveL fr (ow,l.1) x) (ow,l.2.1) y,x,y,0)
  else (l,fr,0,0,giveE (giveL fr (ow,l.1) x) (ow,l.2.1) y)
 else (l,fr,0,0,giveE fr (ow,l.1) x)
theorem collectN_eval {l : Ln} {fr : List Hd} {ow : Int} (h : RightN l) (hf : Ac.Right fr) : collectN l fr ow=collectC l fr ow:=by
 unfold collectN collectC
 rw [rightN_iff.2 h,Ac.right_iff.2 hf,if_pos (by rfl)]
def richK (n : Int) : Nat→List Hd
 | 0=>[]
 | k+1=>giveL (giveL (richK n k) (k,1) n) (k,2) n
theorem give_right {l : List Hd} {p : Pu} {n : Int} (h : Ac.Right l) : Ac.Right (giveL l p n):=by
 by_cases e : giveE l p n=0
 ·exact (Ac.give_done e).1
 ·rw [Ac.give_none e];exact h
theorem rich_right (n : Int) : ∀ k,Ac.Right (richK n k)
 | 0=>Ac.Right.nil
 | k+1=>give_right (give_right (rich_right n k))
theorem rich_len (n : Int) (k : Nat) : (richK n k).length≤1000:=by have:=Ac.right_512 (rich_right n k);omega
theorem right_newN {b q : Int} (h : pairOk b q=true) : RightN (newN b q):=by
 unfold newN
 rw [if_pos h]
 exact ⟨h,right_new,Ac.Right.nil,rfl⟩
abbrev ln0 : Ln:=(1,2,([],[],1),[])
abbrev ln1 : Ln:=(1,2,([],[(10,[(1,1,2,10,5)])],2),[])
abbrev ln2 : Ln:=(1,2,([],[],2),[(1,2,50)])
abbrev ln3 : Ln:=(1,2,([],[],2),[])
abbrev fr1 : List Hd:=[(0,1,100),(0,2,100),(1,1,95),(1,2,100),(2,1,100),(2,2,100),(3,1,100),(3,2,100)]
abbrev fr2 : List Hd:=[(0,1,100),(0,2,100),(1,1,95),(1,2,100),(2,1,105),(2,2,50),(3,1,100),(3,2,100)]
abbrev fr3 : List Hd:=[(0,1,100),(0,2,100),(1,1,95),(1,2,150),(2,1,105),(2,2,50),(3,1,100),(3,2,100)]
theorem awR0 : RightN ln0:=right_newN (b:=1) (q:=2) rfl
theorem aw1 : placeN ln0 (richK 100 4) 1 2 10 5 true=(ln1,fr1,[],1,0):=(placeN_eval awR0 (rich_right _ _) (by decide)).trans (by kernel_rfl)
theorem awK1 : Keeps ln0 ln1 (richK 100 4) fr1 1:=by have:=(placeN_keep awR0 (rich_right 100 4) 1 2 10 5 true).1;rw [aw1] at this;exact this
theorem aw2 : placeN ln1 fr1 2 1 12 5 true=(ln2,fr2,[(1,1,10,5,true)],0,0):=(placeN_eval awK1.right awK1.free (by decide)).trans (by kernel_rfl)
theorem awK2 : Keeps ln1 ln2 fr1 fr2 2:=by have:=(placeN_keep awK1.right awK1.free 2 1 12 5 true).1;rw [aw2] at this;exact this
theorem aw3 : collectN ln2 fr2 1=(ln3,fr3,0,50,0):=(collectN_eval awK2.right awK2.free).trans (by kernel_rfl)
theorem awK3 : Keeps ln2 ln3 fr2 fr3 1:=by have:=(collectN_keep awK2.right awK2.free 1).1;rw [aw3] at this;exact this
theorem aw4 : Ac.get fr3 (1,2)=150:=by kernel_rfl
theorem aw5 : Ac.get fr3 (2,2)=50:=by kernel_rfl
theorem aw6 : rightN ln3=true:=rightN_iff.2 awK3.right
abbrev Op5:=Int × Int × Int × Int × Int
noncomputable def stepN (l : Ln) (fr : List Hd) (o : Op5) : Ln × List Hd × Int :=
 if o.1=2 then ((cancelN l fr o.2.1 o.2.2.2.1).1,(cancelN l fr o.2.1 o.2.2.2.1).2.1,(cancelN l fr o.2.1 o.2.2.2.1).2.2.2)
 else if o.1=3 then ((collectN l fr o.2.1).1,(collectN l fr o.2.1).2.1,(collectN l fr o.2.1).2.2.2.2)
 else ((placeN l fr o.2.1 o.2.2.1 o.2.2.2.1 o.2.2.2.2 (o.1 != 1)).1,(placeN l fr o.2.1 o.2.2.1 o.2.2.2.1 o.2.2.2.2 (o.1 != 1)).2.1,(placeN l fr o.2.1 o.2.2.1 o.2.2.2.1 o.2.2.2.2 (o.1 != 1)).2.2.2.2)
theorem stepN_keep {l : Ln} {fr : List Hd} (h : RightN l) (hf : Ac.Right fr) (o : Op5) :
  Keeps l (stepN l fr o).1 fr (stepN l fr o).2.1 o.2.1∧((stepN l fr o).2.2≠0→(stepN l fr o).1=l∧(stepN l fr o).2.1=fr)∧(o.1≠3→∀ u : Pu,u.1=o.2.1→Ac.get (stepN l fr o).1.2.2.2 u=Ac.get l.2.2.2 u)∧(o.1=3→(stepN l fr o).2.2=0→∀ u : Pu,u.1=o.2.1→Ac.get (stepN l fr o).1.2.2.2 u=0):=by
 unfold stepN
 by_cases h2 : o.1=2
 ·rw [if_pos h2]
  obtain ⟨k1,k2,k3⟩:=cancelN_keep h hf o.2.1 o.2.2.2.1
  exact ⟨k1,k3,fun _ u _=>by simp only;rw [k2],fun e=>absurd (h2.symm.trans e) (by decide)⟩
 ·rw [if_neg h2]
  by_cases h3 : o.1=3
  ·rw [if_pos h3]
   obtain ⟨k1,k2,k3⟩:=collectN_keep h hf o.2.1
   exact ⟨k1,k3,fun e=>absurd h3 e,fun _=>k2⟩
  ·rw [if_neg h3]
   obtain ⟨k1,k2,k3⟩:=placeN_keep h hf o.2.1 o.2.2.1 o.2.2.2.1 o.2.2.2.2 (o.1 != 1)
   exact ⟨k1,k3,fun _=>k2,fun e=>absurd e h3⟩
noncomputable def runN (l : Ln) (fr : List Hd) : List Op5→Ln × List Hd
 | []=>(l,fr)
 | o :: r=>runN (stepN l fr o).1 (stepN l fr o).2.1 r
theorem runN_snoc : ∀ (ops : List Op5) (l : Ln) (fr : List Hd) (o : Op5),runN l fr (ops++[o])=((stepN (runN l fr ops).1 (runN l fr ops).2 o).1,(stepN (runN l fr ops).1 (runN l fr ops).2 o).2.1)
 | [],_,_,_=>rfl
 | x :: r,l,fr,o=>by rw [List.cons_append,runN,runN_snoc r,runN]
theorem runN_right : ∀ (ops : List Op5) {l : Ln} {fr : List Hd},RightN l→Ac.Right fr→RightN (runN l fr ops).1∧Ac.Right (runN l fr ops).2∧(runN l fr ops).1.1=l.1∧(runN l fr ops).1.2.1=l.2.1∧∀ a,tot a (runN l fr ops).2+rsv l.1 l.2.1 a (allO (runN l fr ops).1.2.2.1)+tot a (runN l fr ops).1.2.2.2=tot a fr+rsv l.1 l.2.1 a (allO l.2.2.1)+tot a l.2.2.2
 | [],_,_,h,hf=>⟨h,hf,rfl,rfl,fun _=>rfl⟩
 | o :: r,l,fr,h,hf=>by
  have k:=(stepN_keep h hf o).1
  obtain ⟨r1,r2,r3,r4,r5⟩:=runN_right r k.right k.free
  rw [runN]
  refine ⟨r1,r2,r3.trans k.base,r4.trans k.quote,fun a=>?_⟩
  have e1:=r5 a
  rw [k.base,k.quote] at e1
  rw [e1]
  exact k.tot' a
end Go.Proofs.YthecinmekoaphaaGreat.La
namespace Go.Proofs.YthecinmekoaphaaGreat.La
open Go.RowKit
open Rw
open Da
open Le
open Bk
open Ac (Hd Pu HL pmay pmay_iff tot total giveE giveL takeE takeL)
theorem same_yes {B B' : Bs} (l : Ln) (v x : Value) (w : World) (h : LN B l v w) (k : LN B' l x w) (hB : B.le w.heap.size) (hB' : B'.le w.heap.size) (hs : Sm l) :
  Calls Tryz.prog 9 #[v,x] w fun e w'=>e=.returned (.bool true)∧Below w.heap.size w w':=by
 have HSm:=lH hs
 obtain ⟨lb,lq,⟨bu,se,nn⟩,od⟩:=l
 obtain ⟨a1,n1,c1,a2,n2,c2,a3,n3,c3,rfl,e1,e2,e3,hl1,hl2,hl3⟩:=h.open'
 obtain ⟨b1,m1,d1,b2,m2,d2,b3,m3,d3,rfl,f1,f2,f3,hk1,hk2,hk3⟩:=k.open'
 simp only at e1 e2 e3 hl1 hl2 hl3 f1 f2 f3 hk1 hk2 hk3
 obtain ⟨V1,hV1⟩ : ∃ V,V=w.alloc (.cells (cN lb lq (.slice a1 n1 c1) (.slice a2 n2 c2) nn (.slice a3 n3 c3)) 28):=⟨_,rfl⟩
 have hbV1 : Below w.heap.size w V1:=hV1 ▸ below1 w _
 have hzV1 : V1.heap.size=w.heap.size+1:=by rw [hV1];simp
 obtain ⟨V,hV⟩ : ∃ V,V=V1.alloc (.cells (cN lb lq (.slice b1 m1 d1) (.slice b2 m2 d2) nn (.slice b3 m3 d3)) 28):=⟨_,rfl⟩
 have hbV2 : Below V1.heap.size V1 V:=hV ▸ below1 V1 _
 have hbV : Below w.heap.size w V:=nx hbV1 hbV2
 have hx0 : LB B (lb,lq,(bu,se,nn),od) (.slice a1 n1 c1) (.slice a2 n2 c2) (.slice a3 n3 c3) w.heap.size V1:=by rw [hV1];exact LB.made hl1 hl2 hl3 hB.1
 have hx1 : LB B (lb,lq,(bu,se,nn),od) (.slice a1 n1 c1) (.slice a2 n2 c2) (.slice a3 n3 c3) w.heap.size V:=hx0.stays hbV2
 have hy1 : LB B' (lb,lq,(bu,se,nn),od) (.slice b1 m1 d1) (.slice b2 m2 d2) (.slice b3 m3 d3) (w.heap.size+1) V:=by
  rw [hV,← hzV1]
  exact LB.made (l:=(lb,lq,(bu,se,nn),od)) (Is.stays eL 98 hk1 hbV1) (Is.stays eL 98 hk2 hbV1) (hl_stays hk3 hbV1) (by have:=hB'.1;omega)
 have HX:=lH hx1
 have HY:=lH hy1
 have HB:=lH (show ∀ u,Below V.heap.size V u→B.le u.heap.size∧B'.le u.heap.size from fun u hu=>⟨hB.mono (nx hbV hu).size,hB'.mono (nx hbV hu).size⟩)
 have hF : ∀ u,Below V.heap.size V u→(u.cell? ⟨w.heap.size,0,none⟩=some (.int .i64 lb)∧u.cell? ⟨w.heap.size,1,none⟩=some (.int .i64 lq)∧u.cell? ⟨w.heap.size,2,none⟩=some (.slice a1 n1 c1)∧u.cell? ⟨w.heap.size,3,none⟩=some (.slice a2 n2 c2)∧u.cell? ⟨w.heap.size,4,none⟩=some (.int .i64 nn)∧u.cell? ⟨w.heap.size,5,none⟩=some (.slice a3 n3 c3))∧w.heap.size<u.heap.size ∧
   (u.cell? ⟨w.heap.size+1,0,none⟩=some (.int .i64 lb)∧u.cell? ⟨w.heap.size+1,1,none⟩=some (.int .i64 lq)∧u.cell? ⟨w.heap.size+1,2,none⟩=some (.slice b1 m1 d1)∧u.cell? ⟨w.heap.size+1,3,none⟩=some (.slice b2 m2 d2)∧u.cell? ⟨w.heap.size+1,4,none⟩=some (.int .i64 nn)∧u.cell? ⟨w.heap.size+1,5,none⟩=some (.slice b3 m3 d3))∧w.heap.size+1<u.heap.size:=fun u hu =>
  ⟨(HX.out.stays hu).cells,(HX.out.stays hu).lt,(HY.out.stays hu).cells,(HY.out.stays hu).lt⟩
 have HV:=lH (show V=(w.alloc (.cells (cN lb lq (.slice a1 n1 c1) (.slice a2 n2 c2) nn (.slice a3 n3 c3)) 28)).alloc (.cells (cN lb lq (.slice b1 m1 d1) (.slice b2 m2 d2) nn (.slice b3 m3 d3)) 28) from by rw [hV,hV1])
 clear hs h k hl1 hl2 hl3 hk1 hk2 hk3 e1 e2 e3 f1 f2 f3 hV hV1 hx0 hx1 hy1 hB hB' hbV1 hbV2 hzV1
 go_enter Tryz.func9,Tryz.ntmps9
 go_wp2
 rw [← HV.out]
 refine Rh.rb [0,1,2,3,4,5,6,7,8,9,10,11,12,13,14,15,16,17,18,19,20,21,22,23,24,26,27,28,25,29,30,31,32,33,34,35,37,38,39,36,40,41,42,43,44,45,46,47,48,49,50] ?_
 repeat (first | (refine Rh.Steps.sk ?_;simp only [Act.put,sA,sB,sC]) | (refine Rh.Steps.pu (v:=?_) ?_ ?_;rotate_left;(intro w_ hS_;have hk_:=hF w_ hS_;go_simp<;>with_reducible rfl);simp only [Act.put,sA,sB,sC]))
 refine Rh.Steps.forced (i:=25) (by kernel_rfl) ?_
 refine Rh.One.call (fun v u=>OL B (flat bu) v u) (fun v _ _ h k=>Is.stays eO 70 h k) (f:=?_) (args:=?_) (by rfl) (by rfl) ?_ ?_ ?_
 rotate_left 2
 ·intro w_ hS_ hG_;go_simp<;>first | with_reducible rfl | (constructor<;>with_reducible rfl)
 ·intro w_ hS_ hG_;(go_at_call 33;refine (ords_big B bu _ w_ (HX.out.stays hS_).l1 (HB.out w_ hS_).1 (Nat.le_trans HSm.out.m1 (by decide)) (Nat.le_trans HSm.out.m2 (by decide))).mono ?_;rintro e w' ⟨v,rfl,hb9,ho⟩;exact ⟨v,rfl,hb9,ho⟩)
 intro v1 u_ hv1
 simp only [Act.put,sA,sB,sC]
 refine Rh.Steps.forced (i:=29) (by kernel_rfl) ?_
 refine Rh.One.call (fun v u=>OL B' (flat bu) v u) (fun v _ _ h k=>Is.stays eO 70 h k) (f:=?_) (args:=?_) (by rfl) (by rfl) ?_ ?_ ?_
 rotate_left 2
 ·intro w_ hS_ hG_;go_simp<;>first | with_reducible rfl | (constructor<;>with_reducible rfl)
 ·intro w_ hS_ hG_;(go_at_call 33;refine (ords_big B' bu _ w_ (HY.out.stays hS_).l1 (HB.out w_ hS_).2 (Nat.le_trans HSm.out.m1 (by decide)) (Nat.le_trans HSm.out.m2 (by decide))).mono ?_;rintro e w' ⟨v,rfl,hb9,ho⟩;exact ⟨v,rfl,hb9,ho⟩)
 intro v2 u_ hv2
 simp only [Act.put,sA,sB,sC]
 refine Rh.Steps.forced (i:=30) (by kernel_rfl) ?_
 refine Rh.One.call (fun v _=>v=.bool true) (fun _ _ _ h _=>h) (f:=?_) (args:=?_) (by rfl) (by rfl) ?_ ?_ ?_
 rotate_left 2
 ·intro w_ hS_ hG_;go_simp<;>first | with_reducible rfl | (constructor<;>with_reducible rfl)
 ·intro w_ hS_ hG_;(go_at_call 32;refine (orders_yes (flat bu) v1 v2 w_ hG_.1.2 hG_.2 (Nat.le_trans HSm.out.m2 (by decide))).mono ?_;rintro e w' ⟨rfl,hb9⟩;exact ⟨_,rfl,hb9,rfl⟩)
 intro v3 u_ hv3
 simp only [Act.put,sA,sB,sC]
 subst hv3
 repeat (first | (refine Rh.Steps.sk ?_;simp only [Act.put,sA,sB,sC]) | (refine Rh.Steps.pu (v:=?_) ?_ ?_;rotate_left;(intro w_ hS_;have hk_:=hF w_ hS_;go_simp<;>with_reducible rfl);simp only [Act.put,sA,sB,sC]))
 refine Rh.Steps.forced (i:=36) (by kernel_rfl) ?_
 refine Rh.One.call (fun v u=>OL B (flat se) v u) (fun v _ _ h k=>Is.stays eO 70 h k) (f:=?_) (args:=?_) (by rfl) (by rfl) ?_ ?_ ?_
 rotate_left 2
 ·intro w_ hS_ hG_;go_simp<;>first | with_reducible rfl | (constructor<;>with_reducible rfl)
 ·intro w_ hS_ hG_;(go_at_call 33;refine (ords_big B se _ w_ (HX.out.stays hS_).l2 (HB.out w_ hS_).1 (Nat.le_trans HSm.out.m3 (by decide)) (Nat.le_trans HSm.out.m4 (by decide))).mono ?_;rintro e w' ⟨v,rfl,hb9,ho⟩;exact ⟨v,rfl,hb9,ho⟩)
 intro v4 u_ hv4
 simp only [Act.put,sA,sB,sC]
 refine Rh.Steps.forced (i:=40) (by kernel_rfl) ?_
 refine Rh.One.call (fun v u=>OL B' (flat se) v u) (fun v _ _ h k=>Is.stays eO 70 h k) (f:=?_) (args:=?_) (by rfl) (by rfl) ?_ ?_ ?_
 rotate_left 2
 ·intro w_ hS_ hG_;go_simp<;>first | with_reducible rfl | (constructor<;>with_reducible rfl)
 ·intro w_ hS_ hG_;(go_at_call 33;refine (ords_big B' se _ w_ (HY.out.stays hS_).l2 (HB.out w_ hS_).2 (Nat.le_trans HSm.out.m3 (by decide)) (Nat.le_trans HSm.out.m4 (by decide))).mono ?_;rintro e w' ⟨v,rfl,hb9,ho⟩;exact ⟨v,rfl,hb9,ho⟩)
 intro v5 u_ hv5
 simp only [Act.put,sA,sB,sC]
 refine Rh.Steps.forced (i:=41) (by kernel_rfl) ?_
 refine Rh.One.call (fun v _=>v=.bool true) (fun _ _ _ h _=>h) (f:=?_) (args:=?_) (by rfl) (by rfl) ?_ ?_ ?_
 rotate_left 2
 ·intro w_ hS_ hG_;go_simp<;>first | with_reducible rfl | (constructor<;>with_reducible rfl)
 ·intro w_ hS_ hG_;(go_at_call 32;refine (orders_yes (flat se) v4 v5 w_ hG_.1.2 hG_.2 (Nat.le_trans HSm.out.m4 (by decide))).mono ?_;rintro e w' ⟨rfl,hb9⟩;exact ⟨_,rfl,hb9,rfl⟩)
 intro v6 u_ hv6
 simp only [Act.put,sA,sB,sC]
 subst hv6
 repeat (first | (refine Rh.Steps.sk ?_;simp only [Act.put,sA,sB,sC]) | (refine Rh.Steps.pu (v:=?_) ?_ ?_;rotate_left;(intro w_ hS_;have hk_:=hF w_ hS_;go_simp<;>with_reducible rfl);simp only [Act.put,sA,sB,sC]))
 refine Rh.Steps.forced (i:=48) (by kernel_rfl) ?_
 refine Rh.One.call (fun v _=>v=.bool true) (fun _ _ _ h _=>h) (f:=?_) (args:=?_) (by rfl) (by rfl) ?_ ?_ ?_
 rotate_left 2
 ·intro w_ hS_ hG_;go_simp<;>first | with_reducible rfl | (constructor<;>with_reducible rfl)
 ·intro w_ hS_ hG_;(go_at_call 19;refine (holdings_yes od _ _ w_ (HX.out.stays hS_).l3 (HY.out.stays hS_).l3 (Nat.le_trans HSm.out.m5 (by decide))).mono ?_;rintro e w' ⟨rfl,hb9⟩;exact ⟨_,rfl,hb9,rfl⟩)
 intro v7 u_ hv7
 simp only [Act.put,sA,sB,sC]
 subst hv7
 repeat (first | (refine Rh.Steps.sk ?_;simp only [Act.put,sA,sB,sC]) | (refine Rh.Steps.pu (v:=?_) ?_ ?_;rotate_left;(intro w_ hS_;have hk_:=hF w_ hS_;go_simp<;>with_reducible rfl);simp only [Act.put,sA,sB,sC]))
 refine Rh.Steps.nil (by kernel_rfl) ?_
 intro w9 hS9 _
 go_wp2
 go_ret
 exact ⟨rfl,nx hbV hS9⟩
theorem rich_any {lo : Nat} (n : Int) (w : World) : Calls Tryz.prog 11 #[.int .i64 n] w (Post (HL lo (richK n 4)) w):=by
 go_enter Tryz.func11,Tryz.ntmps11
 go_wp2
 go_loopw [3,4,5,8,16] (fun l _ i _ _ wr=>∃ k : Nat,k≤4∧i=.int .i64 k∧Below w.heap.size w wr∧HL lo (richK n k) l wr) (fun _ _ i _ _ _=>4 - (intOf i).toNat)
 case atStart=>exact ⟨0,Nat.zero_le _,rfl,Below.refl _ _,Sl.SL.nil _ _ _ _⟩
 case round =>
  obtain ⟨k,hk,rfl,hb,hl⟩:=hrel
  have HL0:=lH hl
  clear hl
  by_cases hlt : k<4
  ·have hlt2 : (k : Int)<4:=by omega
   obtain ⟨l0,hl0⟩ : ∃ l,richK n k=l:=⟨_,rfl⟩
   have hlen0 : l0.length≤1000000:=by have:=rich_len n k;rw [hl0] at this;omega
   have hlen1 : (giveL l0 (k,1) n).length≤1000000:=by have:=Ac.right_512 (give_right (p:=(k,1)) (n:=n) (rich_right n k));rw [hl0] at this;omega
   rw [hl0] at HL0
   have HK:=lH (show richK n (k+1)=giveL (giveL l0 (k,1) n) (k,2) n from by rw [richK,hl0])
   clear hl0
   go_wp2_with fail
   refine (Ac.give_any l0 _ k 1 n wr HL0.out hlen0).mono ?_
   rintro e w1 ⟨v1,rfl,hb1,h1⟩
   have HL1:=lH h1
   clear h1
   go_wp2_with fail
   refine (Ac.give_any (giveL l0 (k,1) n) _ k 2 n w1 HL1.out hlen1).mono ?_
   rintro e w2 ⟨v2,rfl,hb2,h2⟩
   have HL2:=lH (show HL lo (richK n (k+1)) v2 w2 from by rw [HK.out];exact h2)
   clear h2
   go_wp2
   go_roundw
   case rel=>exact ⟨k+1,by omega,by go_num,nx hb (nx hb1 hb2),HL2.out⟩
   case measure=>simp [intOf];omega
  ·obtain rfl : k=4:=by omega
   go_wp2
   go_ret
   exact ⟨_,rfl,hb,HL0.out⟩
end Go.Proofs.YthecinmekoaphaaGreat.La
