/- Plain mathematics of layer 6: a command as nine numbers, in the order of its fields: client, number, kind, lane, asset, order, side, price, quantity. -/
import Derived.Test.YtjhocpcpkemcaaaGreatQkZZ
import Derived.WalkKit
import Derived.Test.YtjhocpcpkemcaaaGreatQkAT
import Derived.Test.YtjhocpcpkemcaaaGreatQkAS
import Derived.Test.YtjhocpcpkemcaaaGreatQkAC
import Derived.Test.YtjhocpcpkemcaaaGreatQkAR
import Derived.Test.YtjhocpcpkemcaaaGreatQkAF
set_option linter.unusedVariables false
set_option maxRecDepth 16000
set_option maxHeartbeats 32000000
namespace Go.Proofs.YtjhocpcpkemcaaaGreat.Cm
def zeroF : Nat→Int:=fun _=>0
def upd (f : Nat→Int) (k : Nat) (x : Int) : Nat→Int:=fun i=>if i=k then x else f i
def eqF (f g : Nat→Int) : Bool:=(List.range' 0 9).all fun i=>decide (f i=g i)
theorem eqF_iff {f g : Nat→Int} : eqF f g=true ↔ ∀ i,i<9→f i=g i:=by
 unfold eqF
 rw [List.all_eq_true]
 constructor
 ·intro h i hi
  simpa using h i (by rw [List.mem_range'_1];omega)
 ·intro h i hi
  simpa using h i (by rw [List.mem_range'_1] at hi;omega)
def wi (n lo hi : Int) : Bool:=decide (lo≤n)&&decide (n≤hi)
theorem wi_iff {n lo hi : Int} : wi n lo hi=true ↔ lo≤n∧n≤hi:=by simp [wi]
def tst (c : Nat→Int) : Nat→Bool
 | 0=>wi (c 2) 1 8
 | 1=>wi (c 0) 0 63
 | 2=>wi (c 1) 1 1125899906842624
 | 3=>wi (c 3) 0 5
 | 4=>wi (c 4) 0 7
 | 5=>wi (c 5) 0 1073741824
 | 6=>wi (c 6) 0 2
 | 7=>wi (c 7) 0 1125899906842624
 | _=>wi (c 8) 0 1125899906842624
def limB (c : Nat→Int) : Bool:=(List.range' 0 9).all (tst c)
theorem limB_iff {c : Nat→Int} : limB c=true ↔ ∀ i,i<9→tst c i=true:=by
 unfold limB
 rw [List.all_eq_true]
 constructor
 ·intro h i hi
  exact h i (by rw [List.mem_range'_1];omega)
 ·intro h i hi
  exact h i (by rw [List.mem_range'_1] at hi;omega)
theorem limB_no {c : Nat→Int} (i : Nat) (hi : i<9) (h : tst c i=false) : limB c=false:=by
 cases e : limB c
 ·rfl
 ·rw [limB_iff.1 e i hi] at h;cases h
theorem first_no {c : Nat→Int} : limB c=true∨∃ i,i<9∧tst c i=false∧∀ j,j<i→tst c j=true:=by
 have key : ∀ n,n≤9→(∀ j,j<n→tst c j=true)∨∃ i,i<9∧tst c i=false∧∀ j,j<i→tst c j=true:=by
  intro n
  induction n with
  | zero=>intro _;exact .inl fun j hj=>by omega
  | succ n ih =>
   intro hn
   rcases ih (by omega) with h | h
   ·cases e : tst c n
    ·exact .inr ⟨n,by omega,e,h⟩
    ·exact .inl fun j hj=>by
      by_cases k : j=n
      ·subst k;exact e
      ·exact h j (by omega)
   ·exact .inr h
 rcases key 9 (Nat.le_refl _) with h | h
 ·exact .inl (limB_iff.2 h)
 ·exact .inr h
def zeroB (c : Nat→Int) : Bool:=eqF c zeroF
def chkB (c : Nat→Int) : Bool:=zeroB c||limB c
def chkE (c : Nat→Int) : Int:=if chkB c then 0 else 1
theorem lim_eq (c : Nat→Int) : limB c=true ↔ (1≤c 2∧c 2≤8)∧(0≤c 0∧c 0≤63)∧(1≤c 1∧c 1≤1125899906842624)∧(0≤c 3∧c 3≤5)∧(0≤c 4∧c 4≤7)∧(0≤c 5∧c 5≤1073741824)∧(0≤c 6∧c 6≤2)∧(0≤c 7∧c 7≤1125899906842624)∧(0≤c 8∧c 8≤1125899906842624):=by
 rw [limB_iff]
 constructor
 ·intro h
  exact ⟨wi_iff.1 (h 0 (by omega)),wi_iff.1 (h 1 (by omega)),wi_iff.1 (h 2 (by omega)),wi_iff.1 (h 3 (by omega)),wi_iff.1 (h 4 (by omega)),wi_iff.1 (h 5 (by omega)),wi_iff.1 (h 6 (by omega)),wi_iff.1 (h 7 (by omega)),wi_iff.1 (h 8 (by omega))⟩
 ·rintro ⟨h0,h1,h2,h3,h4,h5,h6,h7,h8⟩ i hi
  match i,hi with
  | 0,_=>exact wi_iff.2 h0
  | 1,_=>exact wi_iff.2 h1
  | 2,_=>exact wi_iff.2 h2
  | 3,_=>exact wi_iff.2 h3
  | 4,_=>exact wi_iff.2 h4
  | 5,_=>exact wi_iff.2 h5
  | 6,_=>exact wi_iff.2 h6
  | 7,_=>exact wi_iff.2 h7
  | 8,_=>exact wi_iff.2 h8
def laneB (k : Int) : Bool:=k==3||k==4||k==5||k==6||k==8
def meetB (a b : Nat→Int) : Bool:=(a 2 != 0)&&(b 2 != 0)&&((a 0==b 0)||(laneB (a 2)&&laneB (b 2)&&(a 3==b 3)))
def fld : Nat→Nat
 | 0=>2 | 1=>0 | 2=>3 | 3=>4 | 4=>6 | 5=>1 | 6=>7 | 7=>8 | _=>5
def wd : Nat→Nat
 | 0=>1 | 1=>1 | 2=>1 | 3=>1 | 4=>1 | 5=>7 | 6=>7 | 7=>7 | _=>4
def pre : Nat→Nat
 | 0=>0
 | k+1=>pre k+wd k
end Go.Proofs.YtjhocpcpkemcaaaGreat.Cm
namespace Go.Proofs.YtjhocpcpkemcaaaGreat.Ex
open Bk (Bk Fl sumQ bestP cancel_cases)
open La (Ln placeN cancelN collectN RightN rightN rightN_iff placeN_keep cancelN_keep collectN_keep stl)
open Ac (Hd Pu pmay pmay_iff giveE giveL takeE takeL)
open Se (Rp Sn z5 fnd noteE noteL mk okS okS_iff)
open Cm (chkE chkB laneB meetB zeroB limB lim_eq)
structure Xc where
 free : List Hd
 lanes : List Ln
 sess : List Sn
 inn : List Hd
 out : List Hd
structure RightX (x : Xc) : Prop where
 few : x.lanes.length≤6
 lane : ∀ l∈x.lanes,RightN l
 free : Ac.Right x.free
 inn : Ac.Right x.inn
 out : Ac.Right x.out
 sess : Se.Right x.sess
noncomputable def rightX (x : Xc) : Bool:=decide (x.lanes.length≤6)&&x.lanes.all rightN&&Ac.right x.free&&Ac.right x.inn&&Ac.right x.out&&Se.right x.sess
theorem rightX_iff {x : Xc} : rightX x=true ↔ RightX x:=by
 unfold rightX
 simp only [Bool.and_eq_true,decide_eq_true_eq,List.all_eq_true,rightN_iff,Ac.right_iff,Se.right_iff]
 exact ⟨fun ⟨⟨⟨⟨⟨a,b⟩,c⟩,d⟩,e⟩,f⟩=>⟨a,b,c,d,e,f⟩,fun ⟨a,b,c,d,e,f⟩=>⟨⟨⟨⟨⟨a,b⟩,c⟩,d⟩,e⟩,f⟩⟩
def execP (x : Xc) (c : Nat→Int) : Xc × Int × Int × Int :=
 if c 2≠7∧c 8=0 then (x,1,0,0)
 else if c 2=1 then
  if giveE x.inn (c 0,c 4) (c 8)=0 then
   if giveE x.free (c 0,c 4) (c 8)=0 then
    ({ x with inn:=giveL x.inn (c 0,c 4) (c 8),free:=giveL x.free (c 0,c 4) (c 8) },0,Ac.get (giveL x.free (c 0,c 4) (c 8)) (c 0,c 4),0)
   else (x,giveE x.free (c 0,c 4) (c 8),0,0)
  else (x,giveE x.inn (c 0,c 4) (c 8),0,0)
 else if c 2=2 then
  if takeE x.free (c 0,c 4) (c 8)=0 then
   if giveE x.out (c 0,c 4) (c 8)=0 then
    ({ x with out:=giveL x.out (c 0,c 4) (c 8),free:=takeL x.free (c 0,c 4) (c 8) },0,Ac.get (takeL x.free (c 0,c 4) (c 8)) (c 0,c 4),0)
   else (x,giveE x.out (c 0,c 4) (c 8),0,0)
  else (x,takeE x.free (c 0,c 4) (c 8),0,0)
 else (x,0,Ac.get x.free (c 0,c 4),0)
noncomputable def act (l : Ln) (fr : List Hd) (c : Nat→Int) : Ln × List Hd × Int × Int × Int :=
 if c 2=3∨c 2=4 then
  ((placeN l fr (c 0) (c 6) (c 7) (c 8) (c 2==3)).1,(placeN l fr (c 0) (c 6) (c 7) (c 8) (c 2==3)).2.1,(placeN l fr (c 0) (c 6) (c 7) (c 8) (c 2==3)).2.2.2.2,(placeN l fr (c 0) (c 6) (c 7) (c 8) (c 2==3)).2.2.2.1,sumQ (placeN l fr (c 0) (c 6) (c 7) (c 8) (c 2==3)).2.2.1)
 else if c 2=5 then
  ((cancelN l fr (c 0) (c 5)).1,(cancelN l fr (c 0) (c 5)).2.1,(cancelN l fr (c 0) (c 5)).2.2.2,(cancelN l fr (c 0) (c 5)).2.2.1,0)
 else if c 2=6 then
  ((collectN l fr (c 0)).1,(collectN l fr (c 0)).2.1,(collectN l fr (c 0)).2.2.2.2,(collectN l fr (c 0)).2.2.1,(collectN l fr (c 0)).2.2.2.1)
 else (l,fr,0,bestP l.2.2.1.1,bestP l.2.2.1.2.1)
noncomputable def execL (x : Xc) (c : Nat→Int) : Xc × Int × Int × Int :=
 match x.lanes[(c 3).toNat]? with
 | none=>(x,8,0,0)
 | some l=>({ x with lanes:=x.lanes.set (c 3).toNat (act l x.free c).1,free:=(act l x.free c).2.1 },(act l x.free c).2.2)
noncomputable def exec (x : Xc) (c : Nat→Int) : Xc × Int × Int × Int:=if laneB (c 2)=true then execL x c else execP x c
def rep (c : Nat→Int) (k : Int × Int × Int) : Rp:=(c 0,c 1,k.1,k.2.1,k.2.2)
noncomputable def apply (x : Xc) (c : Nat→Int) : Xc × Rp :=
 if rightX x=true∧chkE c=0 then
  if c 2=0 then (x,z5)
  else if (Se.look (c 0) (c 1) x.sess).2=0 then (x,(Se.look (c 0) (c 1) x.sess).1)
  else if (Se.look (c 0) (c 1) x.sess).2=13 then (x,rep c (13,0,0))
  else ({ (exec x c).1 with sess:=noteL (exec x c).1.sess (rep c (exec x c).2) },rep c (exec x c).2)
 else (x,rep c (1,0,0))
theorem chk_ok {c : Nat→Int} (h : chkE c=0) (h0 : c 2≠0) : (1≤c 2∧c 2≤8)∧(0≤c 0∧c 0≤63)∧(1≤c 1∧c 1≤1125899906842624)∧(0≤c 3∧c 3≤5)∧(0≤c 4∧c 4≤7):=by
 unfold chkE chkB at h
 have hz : zeroB c=false:=by
  cases e : zeroB c
  ·rfl
  ·exact absurd (Cm.eqF_iff.1 e 2 (by omega)) h0
 rw [hz,Bool.false_or] at h
 cases e : limB c
 ·rw [e] at h;exact absurd h (by decide)
 ·have:=(lim_eq c).1 e
  exact ⟨this.1,this.2.1,this.2.2.1,this.2.2.2.1,this.2.2.2.2.1⟩
theorem add_code (a b : Int) : Mo.addE a b≠13:=by
 unfold Mo.addE Mo.add2
 split
 ·split<;>simp
 ·simp
theorem sub_code (a b : Int) : Mo.subE a b≠13:=by
 unfold Mo.subE Mo.sub2
 split
 ·split<;>simp
 ·simp
theorem give_code (l : List Hd) (p : Pu) (n : Int) : giveE l p n≠13:=by
 unfold giveE
 split
 ·exact add_code _ _
 ·decide
theorem take_code (l : List Hd) (p : Pu) (n : Int) : takeE l p n≠13:=by
 unfold takeE
 split
 ·exact sub_code _ _
 ·decide
theorem stl_code {b q s : Int} : ∀ (fs : List Fl) (ow : List Hd) (p g : Int),(stl b q s fs ow p g).2.2.2≠13
 | [],_,_,_=>by show (0 : Int)≠13;decide
 | f :: r,ow,p,g=>by
  rw [stl]
  split
  ·exact stl_code r _ _ _
  ·exact give_code _ _ _
theorem fin_err (l : Ln) (fr : List Hd) (ow s p : Int) (C : Bk.Pl) (S : List Hd × Int × Int × Int) : (La.fin l fr ow s p C S).2.2.2.2≠13∧((La.fin l fr ow s p C S).2.2.2.2=0∨La.fin l fr ow s p C S=(l,fr,[],0,(La.fin l fr ow s p C S).2.2.2.2)):=by
 unfold La.fin
 simp only
 generalize (if s=2 then l.1 else l.2.1)=ua
 generalize (if s=2 then l.2.1 else l.1)=ga
 generalize S.2.1+(if 0<C.2.2.2.1 then La.ndN s p C.2.2.1 else 0)=P
 by_cases h1 : takeE fr (ow,ua) P=0
 ·rw [if_pos h1]
  by_cases h2 : giveE (takeL fr (ow,ua) P) (ow,ga) S.2.2.1=0
  ·rw [if_pos h2];exact ⟨by show (0 : Int)≠13;decide,.inl rfl⟩
  ·rw [if_neg h2];exact ⟨give_code _ _ _,.inr rfl⟩
 ·rw [if_neg h1];exact ⟨take_code _ _ _,.inr rfl⟩
theorem bplace_code (b : Bk) (ow s p q : Int) (rest : Bool) : (Bk.place b ow s p q rest).2.2.2.2≠13:=by
 unfold Bk.place
 by_cases h : (Bk.rightB b&&Bk.argOk ow s p q)=true
 ·rw [if_pos h]
  cases Bk.tr ow s p (Le.flat (Bk.oth b s)) q with
  | none=>show (11 : Int)≠13;decide
  | some r =>
   obtain ⟨fs,lf⟩:=r
   simp only
   by_cases h1 : rest=true∧0<lf
   ·rw [if_pos h1]
    by_cases h2 : 40≤(Bk.cntB b : Int) - (Bk.dn fs : Nat)∨b.2.2=1073741824
    ·rw [if_pos h2];show (10 : Int)≠13;decide
    ·rw [if_neg h2];show (0 : Int)≠13;decide
   ·rw [if_neg h1];show (0 : Int)≠13;decide
 ·rw [if_neg h];show (1 : Int)≠13;decide
theorem place_err (l : Ln) (fr : List Hd) (ow s p q : Int) (rest : Bool) : (placeN l fr ow s p q rest).2.2.2.2≠13∧((placeN l fr ow s p q rest).2.2.2.2=0∨placeN l fr ow s p q rest=(l,fr,[],0,(placeN l fr ow s p q rest).2.2.2.2)):=by
 unfold placeN
 by_cases h : (rightN l&&Ac.right fr)=true
 ·rw [if_pos h]
  simp only
  by_cases h1 : (Bk.place l.2.2.1 ow s p q rest).2.2.2.2=0
  ·rw [if_pos h1]
   by_cases h2 : (stl l.1 l.2.1 s (Bk.place l.2.2.1 ow s p q rest).2.1 l.2.2.2 0 0).2.2.2=0
   ·rw [if_pos h2];exact fin_err _ _ _ _ _ _ _
   ·rw [if_neg h2];exact ⟨stl_code _ _ _ _,.inr rfl⟩
  ·rw [if_neg h1];exact ⟨bplace_code _ _ _ _ _ _,.inr rfl⟩
 ·rw [if_neg h];exact ⟨by show (1 : Int)≠13;decide,.inr rfl⟩
theorem cancel_err {l : Ln} {fr : List Hd} (ow id : Int) : (cancelN l fr ow id).2.2.2≠13∧((cancelN l fr ow id).2.2.2=0∨cancelN l fr ow id=(l,fr,0,(cancelN l fr ow id).2.2.2)):=by
 unfold cancelN
 split
 ·have hc : (Bk.cancel l.2.2.1 ow id).2.2≠13:=by
   unfold Bk.cancel
   split
   ·split
    ·show (8 : Int)≠13;decide
    ·split
     ·show (0 : Int)≠13;decide
     ·show (9 : Int)≠13;decide
   ·show (1 : Int)≠13;decide
  generalize Bk.cancel l.2.2.1 ow id=r at hc
  obtain ⟨c1,o,e⟩:=r
  cases o with
  | none=>exact ⟨hc,.inr rfl⟩
  | some o =>
   simp only
   split
   ·split
    ·exact ⟨by show (0 : Int)≠13;decide,.inl rfl⟩
    ·exact ⟨give_code _ _ _,.inr rfl⟩
   ·exact ⟨hc,.inr rfl⟩
 ·exact ⟨by show (1 : Int)≠13;decide,.inr rfl⟩
theorem collect_err {l : Ln} {fr : List Hd} (ow : Int) : (collectN l fr ow).2.2.2.2≠13∧((collectN l fr ow).2.2.2.2=0∨collectN l fr ow=(l,fr,0,0,(collectN l fr ow).2.2.2.2)):=by
 unfold collectN
 split
 ·simp only
  split
  ·exact ⟨by show (16 : Int)≠13;decide,.inr rfl⟩
  ·split
   ·split
    ·exact ⟨by show (0 : Int)≠13;decide,.inl rfl⟩
    ·exact ⟨give_code _ _ _,.inr rfl⟩
   ·exact ⟨give_code _ _ _,.inr rfl⟩
 ·exact ⟨by show (1 : Int)≠13;decide,.inr rfl⟩
structure ActK (l : Ln) (fr : List Hd) (ow : Int) (R : Ln × List Hd × Int × Int × Int) : Prop where
 keep : La.Keeps l R.1 fr R.2.1 ow
 err : R.2.2.1≠0→R=(l,fr,R.2.2.1,0,0)
 code : R.2.2.1≠13
theorem act_keep {l : Ln} {fr : List Hd} (h : RightN l) (hf : Ac.Right fr) (c : Nat→Int) : ActK l fr (c 0) (act l fr c):=by
 unfold act
 split
 ·refine ⟨(placeN_keep h hf _ _ _ _ _).1,fun he=>?_,(place_err _ _ _ _ _ _ _).1⟩
  rcases (place_err l fr (c 0) (c 6) (c 7) (c 8) (c 2==3)).2 with k | k
  ·exact absurd k he
  ·generalize placeN l fr (c 0) (c 6) (c 7) (c 8) (c 2==3)=R at k
   rw [k];rfl
 ·split
  ·refine ⟨(cancelN_keep h hf _ _).1,fun he=>?_,(cancel_err _ _).1⟩
   rcases (cancel_err (l:=l) (fr:=fr) (c 0) (c 5)).2 with k | k
   ·exact absurd k he
   ·generalize cancelN l fr (c 0) (c 5)=R at k
    rw [k]
  ·split
   ·refine ⟨(collectN_keep h hf _).1,fun he=>?_,(collect_err _).1⟩
    rcases (collect_err (l:=l) (fr:=fr) (c 0)).2 with k | k
    ·exact absurd k he
    ·generalize collectN l fr (c 0)=R at k
     rw [k]
   ·exact ⟨La.Keeps.refl h hf _,fun he=>absurd rfl he,by show (0 : Int)≠13;decide⟩
end Go.Proofs.YtjhocpcpkemcaaaGreat.Ex
namespace Go.Proofs.YtjhocpcpkemcaaaGreat.Da
open Go.RowKit
def capOk : Value→Prop
 | .slice _ n c=>n≤c
 | _=>False
def cutHi (s k : Nat) : Value→Value
 | .slice a _ c=>.slice (if c=0 then a else a.map (·.add (0*s))) (k - 0) (c - 0)
 | v=>v
def cutLo (s k : Nat) : Value→Value
 | .slice a n c=>.slice (if c=k then a else a.map (·.add (k*s))) (n - k) (c - k)
 | v=>v
theorem add_at (b off j : Nat) : (⟨b,off,none⟩ : Addr).add j=⟨b,off+j,none⟩:=by
 unfold Addr.add
 split
 ·rename_i h;rw [h];rfl
 ·rfl
section
variable {α : Type} {e : Enc α} {T : TypeId}
theorem Own.cap {B : Bs} {Bo : Nat} {l : List α} {v : Value} {w : World} (h : Own e T B Bo l v w) : capOk v:=by
 obtain ⟨css,_,_,_,hr⟩:=h
 rcases hr with ⟨rfl,_⟩ | ⟨g,c,cur,rfl,_,_,hc,_⟩
 ·exact Nat.le_refl 0
 ·exact hc
theorem Is.cutHi {B : Bs} {l : List α} {v : Value} {w : World} (h : Is e T B l v w) {k : Nat} (hk : k≤l.length) : Is e T B (l.take k) (cutHi e.k k v) w:=by
 obtain ⟨a,c,rfl,h⟩:=h
 have hl : (l.take k).length=k:=by rw [List.length_take];omega
 refine ⟨_,_,by unfold Da.cutHi;rw [hl,Nat.sub_zero],?_⟩
 rcases h with ⟨rfl,hc⟩ | ⟨b,off,rfl,h1,h2,h3⟩
 ·left
  refine ⟨by simp,fun ha=>?_⟩
  cases a with
  | none=>simp [hc rfl]
  | some a=>split at ha<;>simp at ha
 ·right
  refine ⟨b,off,?_,h1,h2,fun i x hx=>?_⟩
  ·split
   ·rfl
   ·simp [add_at]
  ·rw [List.getElem?_take] at hx
   split at hx
   ·exact h3 i x hx
   ·cases hx
theorem Is.cutLo {B : Bs} {l : List α} {v : Value} {w : World} (h : Is e T B l v w) (hc : capOk v) {k : Nat} (hk : k≤l.length) : Is e T B (l.drop k) (cutLo e.k k v) w:=by
 obtain ⟨a,c,rfl,h⟩:=h
 have hc : l.length≤c:=hc
 have hl : (l.drop k).length=l.length - k:=List.length_drop
 refine ⟨_,_,by unfold Da.cutLo;rw [hl],?_⟩
 rcases h with ⟨rfl,hc0⟩ | ⟨b,off,rfl,h1,h2,h3⟩
 ·left
  refine ⟨by simp,fun ha=>?_⟩
  cases a with
  | none=>simp [hc0 rfl]
  | some a=>split at ha<;>simp at ha
 ·by_cases e0 : c=k
  ·left
   refine ⟨List.drop_eq_nil_of_le (by omega),fun ha=>?_⟩
   rw [if_pos e0] at ha;cases ha
  ·right
   refine ⟨b,off+k*e.k,by rw [if_neg e0];simp [add_at],h1,h2,fun i x hx=>?_⟩
   rw [List.getElem?_drop] at hx
   obtain ⟨cs,hR,hu⟩:=h3 (k+i) x hx
   refine ⟨cs,hR,fun j u hj=>?_⟩
   have:=hu j u hj
   rw [show off+k*e.k+i*e.k+j=off+(k+i)*e.k+j by rw [Nat.add_mul];omega]
   exact this
theorem capOk_len {B : Bs} {l : List α} {v : Value} {w : World} (h : Is e T B l v w) (hc : capOk v) : ∃ a c,v=.slice a l.length c∧l.length≤c:=by
 obtain ⟨a,c,rfl,_⟩:=h
 exact ⟨a,c,rfl,hc⟩
variable {P : Program} {t : TypeId} {k bytes : Nat} (ρ : Operand→Value) (dst : Option Tmp) (ty : TypeId) (pos : String) (after : Array Edge) (guard : Option (Nat × Bool)) (w : World)
theorem exec_cutHi (E : Elem P t T k bytes) (x y : Operand) {a : Option Addr} {n c m : Nat} (hx : ρ x=.slice a n c) (hy : ρ y=.int .i64 (m : Nat)) (hm : m≤c) :
  (execOp ρ { dst,op:=.slice t x none (some y) none,type:=ty,pos,after,guard }).run P w=.ok (.value (Da.cutHi k m (.slice a n c))) w:=by
 obtain ⟨i,z,hi,hz,hs,hb,hzs⟩:=E.ex
 have hm0 : (0 : Int)≤m:=by omega
 simp [execOp,hx,hy,Instr.sliceAt,Instr.slice,Instr.sliceBounds,Instr.sliceBound,asIntOf,run_underlying E.ht,sizeOf,typeInfo,hi,hm0,Da.cutHi]
 intro hh;omega
theorem exec_cutLo (E : Elem P t T k bytes) (x y : Operand) {a : Option Addr} {n c m : Nat} (hx : ρ x=.slice a n c) (hy : ρ y=.int .i64 (m : Nat)) (hm : m≤n) :
  (execOp ρ { dst,op:=.slice t x (some y) none none,type:=ty,pos,after,guard }).run P w=.ok (.value (Da.cutLo k m (.slice a n c))) w:=by
 obtain ⟨i,z,hi,hz,hs,hb,hzs⟩:=E.ex
 have hm0 : (0 : Int)≤m:=by omega
 simp [execOp,hx,hy,Instr.sliceAt,Instr.slice,Instr.sliceBounds,Instr.sliceBound,asIntOf,run_underlying E.ht,sizeOf,typeInfo,hi,hs,hm0,Da.cutLo]
 intro hh;omega
def natOf : Value→Nat
 | .int _ i=>i.toNat
 | _=>0
def hiOk : Value→Value→Bool
 | .slice _ _ c,.int .i64 i=>decide (0≤i∧i≤c)
 | _,_=>false
def loOk : Value→Value→Bool
 | .slice _ n _,.int .i64 i=>decide (0≤i∧i≤n)
 | _,_=>false
theorem hiOk_at (a : Option Addr) (n c m : Nat) : hiOk (.slice a n c) (.int .i64 (m : Nat))=decide (m≤c):=by simp [hiOk]
theorem loOk_at (a : Option Addr) (n c m : Nat) : loOk (.slice a n c) (.int .i64 (m : Nat))=decide (m≤n):=by simp [loOk]
theorem natOf_at (k : IntKind) (m : Nat) : natOf (.int k (m : Nat))=m:=rfl
theorem exec_hi (E : Elem P t T k bytes) (x y : Operand) (h : hiOk (ρ x) (ρ y)=true) :
  (execOp ρ { dst,op:=.slice t x none (some y) none,type:=ty,pos,after,guard }).run P w=.ok (.value (Da.cutHi k (natOf (ρ y)) (ρ x))) w:=by
 generalize hx : ρ x=X at h ⊢
 generalize hy : ρ y=Y at h ⊢
 match X,Y,h with
 | .slice a n c,.int .i64 i,h =>
  have h:=of_decide_eq_true h
  obtain ⟨m,rfl⟩ : ∃ m : Nat,i=m:=⟨i.toNat,by omega⟩
  exact exec_cutHi (m:=m) ρ dst ty pos after guard w E x y hx hy (by omega)
theorem exec_lo (E : Elem P t T k bytes) (x y : Operand) (h : loOk (ρ x) (ρ y)=true) :
  (execOp ρ { dst,op:=.slice t x (some y) none none,type:=ty,pos,after,guard }).run P w=.ok (.value (Da.cutLo k (natOf (ρ y)) (ρ x))) w:=by
 generalize hx : ρ x=X at h ⊢
 generalize hy : ρ y=Y at h ⊢
 match X,Y,h with
 | .slice a n c,.int .i64 i,h =>
  have h:=of_decide_eq_true h
  obtain ⟨m,rfl⟩ : ∃ m : Nat,i=m:=⟨i.toNat,by omega⟩
  exact exec_cutLo (m:=m) ρ dst ty pos after guard w E x y hx hy (by omega)
end
attribute [go_sem] hiOk_at loOk_at natOf_at
end Go.Proofs.YtjhocpcpkemcaaaGreat.Da
namespace Go.Proofs.YtjhocpcpkemcaaaGreat.Ex
open Go.RowKit
open Rw
open Da
open Le (LL eL Lv flat low_setCell keeps_setCell)
open La (Ln LN LB cN eH hl_is is_hl elemH typesH own_h)
open Ac (Hd Pu HL)
open Se (NL eS Sn Rp)
def eHs : Enc (List Hd):=Enc.slice eH 52
def eLs : Enc (List Lv):=Enc.slice eL 106
def eN : Enc Ln:=Enc.both Le.eI (Enc.both Le.eI (Enc.both (Enc.both eLs (Enc.both eLs Le.eI)) eHs))
theorem eN_cells {B : Bs} {l : Ln} {cs : List Value} {w : World} (h : eN.R B l cs w) : ∃ x y o,cs=[.int .i64 l.1,.int .i64 l.2.1,x,y,.int .i64 l.2.2.1.2.2,o]∧LL B l.2.2.1.1 x w∧LL B l.2.2.1.2.1 y w∧Is eH 52 B l.2.2.2 o w:=by
 obtain ⟨_,_,rfl,rfl,_,_,rfl,rfl,_,_,rfl,⟨_,_,rfl,⟨x,rfl,hx⟩,_,_,rfl,⟨y,rfl,hy⟩,rfl⟩,⟨o,rfl,ho⟩⟩:=h
 exact ⟨x,y,o,rfl,hx,hy,ho⟩
theorem eN_mk {B : Bs} {l : Ln} {x y o : Value} {w : World} (hx : LL B l.2.2.1.1 x w) (hy : LL B l.2.2.1.2.1 y w) (ho : Is eH 52 B l.2.2.2 o w) : eN.R B l [.int .i64 l.1,.int .i64 l.2.1,x,y,.int .i64 l.2.2.1.2.2,o] w :=
 ⟨[_],_,rfl,rfl,[_],_,rfl,rfl,[_,_,_],[_],rfl,⟨[_],[_,_],rfl,⟨x,rfl,hx⟩,[_],[_],rfl,⟨y,rfl,hy⟩,rfl⟩,⟨o,rfl,ho⟩⟩
abbrev NsL (n : Nat) (l : List Ln) (v : Value) (w : World) : Prop:=Is eN 59 (Bs.of n) l v w
theorem atN {n : Nat} {l : List Ln} {b off : Nat} {w : World} (h : Lies eN 59 (Bs.of n) l b off w) (i : Nat) (hi : i<l.length) :
  ∃ a1 n1 c1 a2 n2 c2 a3 n3 c3,LN (Bs.of n) l[i] (.agg (cN l[i].1 l[i].2.1 (.slice a1 n1 c1) (.slice a2 n2 c2) l[i].2.2.1.2.2 (.slice a3 n3 c3))) w∧w.cell? ⟨b,off+i*6,none⟩=some (.int .i64 l[i].1)∧w.cell? ⟨b,off+i*6+1,none⟩=some (.int .i64 l[i].2.1)∧w.cell? ⟨b,off+i*6+2,none⟩=some (.slice a1 n1 c1)
  ∧w.cell? ⟨b,off+i*6+3,none⟩=some (.slice a2 n2 c2)∧w.cell? ⟨b,off+i*6+4,none⟩=some (.int .i64 l[i].2.2.1.2.2)∧w.cell? ⟨b,off+i*6+5,none⟩=some (.slice a3 n3 c3):=by
 obtain ⟨cs,hc,hu⟩:=h.at i hi
 obtain ⟨x,y,o,rfl,hx,hy,ho⟩:=eN_cells hc
 obtain ⟨a1,c1,rfl⟩:=hx.len
 obtain ⟨a2,c2,rfl⟩:=hy.len
 obtain ⟨a3,c3,rfl⟩:=ho.len
 exact ⟨a1,_,c1,a2,_,c2,a3,_,c3,⟨_,_,_,rfl,hx,hy,is_hl ho⟩,hu 0 _ rfl,hu 1 _ rfl,hu 2 _ rfl,hu 3 _ rfl,hu 4 _ rfl,hu 5 _ rfl⟩
theorem typesN : 59 ∉ eN.ts:=by decide
theorem infoN : (Tryz.prog.info? 59).map (fun i=>(i.zero,i.size,i.bytes))=some (some (.agg #[.int .i64 0,.int .i64 0,.slice none 0 0,.slice none 0 0,.int .i64 0,.slice none 0 0]),6,96):=by kernel_rfl
theorem elemN : Elem Tryz.prog 25 59 eN.k 96:=elem_of Tryz.underlying25 infoN rfl (by decide)
structure XD (n : Nat) (x : Xc) (f l s i o : Value) (w : World) : Prop where
 free : HL n x.free f w
 lanes : NsL n x.lanes l w
 sess : NL (Bs.of n) x.sess s w
 inn : HL n x.inn i w
 out : HL n x.out o w
 cap : capOk l
def xts : List TypeId:=59 :: eN.ts++(54 :: eS.ts)++[52]
theorem XD.keep {n : Nat} {x : Xc} {f l s i o : Value} {w w' : World} (h : XD n x f l s i o w) (k : Da.Keeps (Bs.of n) xts w w') : XD n x f l s i o w':=by
 have kh : Da.Keeps (Bs.of n) [52] w w':=k.less (by decide)
 exact ⟨La.hl_keep h.free kh,h.lanes.keep eN 59 (k.less (by decide)),h.sess.keep eS 54 (k.less (by decide)),La.hl_keep h.inn kh,La.hl_keep h.out kh,h.cap⟩
theorem XD.stays {n : Nat} {x : Xc} {f l s i o : Value} {w w' : World} (h : XD n x f l s i o w) (k : Below w.heap.size w w') : XD n x f l s i o w':=h.keep (Keeps.of_below k)
def XV (n : Nat) (x : Xc) (v : Value) (w : World) : Prop:=∃ f l s i o,v=.agg #[f,l,s,i,o]∧XD n x f l s i o w
theorem XV.stays {n : Nat} {x : Xc} {v : Value} {w w' : World} (h : XV n x v w) (k : Below w.heap.size w w') : XV n x v w':=by
 obtain ⟨f,l,s,i,o,rfl,h⟩:=h;exact ⟨f,l,s,i,o,rfl,h.stays k⟩
theorem XD.open' {n : Nat} {x : Xc} {f l s i o : Value} {w : World} (h : XD n x f l s i o w) : ∃ a1 c1 a2 c2 a3 c3 a4 c4 a5 c5,f=.slice a1 x.free.length c1∧l=.slice a2 x.lanes.length c2∧s=.slice a3 x.sess.length c3∧i=.slice a4 x.inn.length c4∧o=.slice a5 x.out.length c5:=by
 obtain ⟨a1,c1,h1⟩:=La.hl_slice h.free
 obtain ⟨a2,c2,h2⟩:=h.lanes.len
 obtain ⟨a3,c3,h3⟩:=h.sess.len
 obtain ⟨a4,c4,h4⟩:=La.hl_slice h.inn
 obtain ⟨a5,c5,h5⟩:=La.hl_slice h.out
 exact ⟨a1,c1,a2,c2,a3,c3,a4,c4,a5,c5,h1,h2,h3,h4,h5⟩
structure XB (n : Nat) (x : Xc) (f l s i o : Value) (b : Nat) (w : World) : Prop where
 bk : w.heap[b]?=some (.cells #[f,l,s,i,o] 28 (0,0))
 lo : n≤b
 d : XD n x f l s i o w
theorem XB.lt {n : Nat} {x : Xc} {f l s i o : Value} {b : Nat} {w : World} (h : XB n x f l s i o b w) : b<w.heap.size:=(Array.getElem?_eq_some_iff.1 h.bk).1
theorem XB.stays {n : Nat} {x : Xc} {f l s i o : Value} {b : Nat} {w w' : World} (h : XB n x f l s i o b w) (k : Below w.heap.size w w') : XB n x f l s i o b w':=⟨(k.block b h.lt).trans h.bk,h.lo,h.d.stays k⟩
theorem XB.row {n : Nat} {x : Xc} {f l s i o : Value} {b : Nat} {w : World} (h : XB n x f l s i o b w) : row w b=#[f,l,s,i,o]:=by unfold Rw.row;rw [h.bk]
theorem XB.cells {n : Nat} {x : Xc} {f l s i o : Value} {b : Nat} {w : World} (h : XB n x f l s i o b w) : w.cell? ⟨b,0,none⟩=some f∧w.cell? ⟨b,1,none⟩=some l∧w.cell? ⟨b,2,none⟩=some s∧w.cell? ⟨b,3,none⟩=some i∧w.cell? ⟨b,4,none⟩=some o:=by
 refine ⟨?_,?_,?_,?_,?_⟩<;>simp [World.cell?,h.bk]
theorem XB.thawed {n : Nat} {x : Xc} {f l s i o : Value} {b : Nat} {w : World} (h : XB n x f l s i o b w) (k : Nat) : w.frozen? ⟨b,k,none⟩=false:=by simp [World.frozen?,h.bk]
theorem XB.made {n : Nat} {x : Xc} {f l s i o : Value} {w : World} (h : XD n x f l s i o w) (hn : n≤w.heap.size) : XB n x f l s i o w.heap.size (w.alloc (.cells #[f,l,s,i,o] 28)):=⟨heap_alloc_new w _,hn,h.stays (below1 _ _)⟩
theorem XB.set {n : Nat} {x y : Xc} {f l s i o f' l' s' i' o' : Value} {b : Nat} {w : World} (k : Nat) (v : Value) (h : XB n x f l s i o b w) (hc : #[f',l',s',i',o']=(#[f,l,s,i,o] : Array Value).setIfInBounds k v) (hd : XD n y f' l' s' i' o' w) : XB n y f' l' s' i' o' b (w.setCell ⟨b,k,none⟩ v) :=
 ⟨by rw [hc];exact La.setN k v h.bk,h.lo,hd.keep (keeps_setCell k v h.bk (by decide) h.lo)⟩
section
variable (ρ : Operand→Value) (dst : Option Tmp) (ty : TypeId) (pos : String) (after : Array Edge) (guard : Option (Nat × Bool)) (w : World)
theorem loadX (x : Operand) (h : (rowOf w (ρ x)).size=5) : (execOp ρ { dst,op:=.load 28 x,type:=ty,pos,after,guard }).run Tryz.prog w=.ok (.value (.agg (rowOf w (ρ x)))) w :=
 exec_load (n:=4) ρ dst ty pos after guard w Tryz.underlying28 rfl (by kernel_rfl) x h
theorem storeX (p x : Operand) (h : plainAt 5 w (ρ p)=true) (hs : (ρ x).cells.size=5) (h1 : oneAll (ρ x)=true) (ha : ρ x=.agg (ρ x).cells) : (execOp ρ { dst,op:=.store 28 p x,type:=ty,pos,after,guard }).run Tryz.prog w=.ok .skip (putRow w (ρ p) (ρ x).cells) :=
 exec_store (n:=4) ρ dst ty pos after guard w (by kernel_rfl) p x h hs h1 ha
end
theorem one5s (a1 a2 a3 a4 a5 : Option Addr) (n1 n2 n3 n4 n5 c1 c2 c3 c4 c5 : Nat) : oneAll (.agg #[.slice a1 n1 c1,.slice a2 n2 c2,.slice a3 n3 c3,.slice a4 n4 c4,.slice a5 n5 c5])=true:=by simp [oneAll,Value.cells,Value.oneCell']
attribute [go_sem ↓] loadX storeX
attribute [go_sem] one5s
theorem ret_X1 {fn : Func} {p : Tmp} (h : fn.results=#[.cell p 28]) (tmps : Array Value) (w : World) {cs : Array Value} (hs : cs.size=5) (hr : rowOf w (tmps.getD p undef)=cs) : (results fn tmps).run Tryz.prog w=.ok (.agg cs) w :=
 ret1 (n:=4) h Tryz.underlying28 rfl (by kernel_rfl) tmps w hs hr
theorem ret_X2 {fn : Func} {p q : Tmp} (h : fn.results=#[.cell p 28,.tmp q]) (tmps : Array Value) (w : World) {cs : Array Value} (hs : cs.size=5) (hr : rowOf w (tmps.getD p undef)=cs) : (results fn tmps).run Tryz.prog w=.ok (.tuple #[.agg cs,tmps.getD q undef]) w :=
 ret2 (n:=4) h Tryz.underlying28 rfl (by kernel_rfl) tmps w hs hr
theorem ret_XR {fn : Func} {p q : Tmp} (h : fn.results=#[.cell p 28,.cell q 37]) (tmps : Array Value) (w : World) {cs ds : Array Value} (hs : cs.size=5) (hr : rowOf w (tmps.getD p undef)=cs) (ks : ds.size=5) (kr : rowOf w (tmps.getD q undef)=ds) : (results fn tmps).run Tryz.prog w=.ok (.tuple #[.agg cs,.agg ds]) w:=by
 obtain ⟨b,e,hl⟩:=read_cell (P:=Tryz.prog) (T:=28) (n:=4) Tryz.underlying28 rfl (by kernel_rfl) hr hs
 obtain ⟨b',e',hl'⟩:=read_cell (P:=Tryz.prog) (T:=37) (n:=4) Tryz.underlying37 rfl (by kernel_rfl) kr ks
 have hp : tmps[p]?.getD undef=.pointer (some ⟨b,0,none⟩):=by simpa using e
 have hq : tmps[q]?.getD undef=.pointer (some ⟨b',0,none⟩):=by simpa using e'
 simp [results,h,hp,hq,asAddr,hl,hl']
end Go.Proofs.YtjhocpcpkemcaaaGreat.Ex
