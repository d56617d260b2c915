/- Plain mathematics of layer 6: a command as nine numbers, in the order of its fields: client, number, kind, lane, asset, order, side, price, quantity. -/
import Derived.Test.YtjhocpcpkemcaaaGreatQeZZ
import Derived.WalkKit
import Derived.Test.YtjhocpcpkemcaaaGreatQeAF
import Derived.Test.YtjhocpcpkemcaaaGreatQeAG
set_option linter.unusedVariables false
set_option maxRecDepth 16000
set_option maxHeartbeats 32000000
namespace Go.Proofs.YtjhocpcpkemcaaaGreat.Cm
def zeroF:Nat→Int:=fun _=>0
def upd (f:Nat→Int) (k:Nat) (x:Int):Nat→Int:=fun i=>if i=k then x else f i
def eqF (f g:Nat→Int):Bool:=(List.range' 0 9).all fun i=>decide (f i=g i)
theorem eqF_iff {f g:Nat→Int}:eqF f g=true ↔ ∀ i,i<9→f i=g i:=by
 unfold eqF
 rw [List.all_eq_true]
 constructor
 ·intro h i hi
  simpa using h i (by rw [List.mem_range'_1];omega)
 ·intro h i hi
  simpa using h i (by rw [List.mem_range'_1] at hi;omega)
def wi (n lo hi:Int):Bool:=decide (lo≤n)&&decide (n≤hi)
theorem wi_iff {n lo hi:Int}:wi n lo hi=true ↔ lo≤n∧n≤hi:=by simp [wi]
def tst (c:Nat→Int):Nat→Bool
 | 0=>wi (c 2) 1 8
 | 1=>wi (c 0) 0 63
 | 2=>wi (c 1) 1 1125899906842624
 | 3=>wi (c 3) 0 5
 | 4=>wi (c 4) 0 7
 | 5=>wi (c 5) 0 1073741824
 | 6=>wi (c 6) 0 2
 | 7=>wi (c 7) 0 1125899906842624
 | _=>wi (c 8) 0 1125899906842624
def limB (c:Nat→Int):Bool:=(List.range' 0 9).all (tst c)
theorem limB_iff {c:Nat→Int}:limB c=true ↔ ∀ i,i<9→tst c i=true:=by
 unfold limB
 rw [List.all_eq_true]
 constructor
 ·intro h i hi
  exact h i (by rw [List.mem_range'_1];omega)
 ·intro h i hi
  exact h i (by rw [List.mem_range'_1] at hi;omega)
theorem limB_no {c:Nat→Int} (i:Nat) (hi:i<9) (h:tst c i=false):limB c=false:=by
 cases e:limB c
 ·rfl
 ·rw [limB_iff.1 e i hi] at h;cases h
theorem first_no {c:Nat→Int}:limB c=true∨∃ i,i<9∧tst c i=false∧∀ j,j<i→tst c j=true:=by
 have key:∀ n,n≤9→(∀ j,j<n→tst c j=true)∨∃ i,i<9∧tst c i=false∧∀ j,j<i→tst c j=true:=by
  intro n
  induction n with
  | zero=>intro _;exact .inl fun j hj=>by omega
  | succ n ih =>
   intro hn
   rcases ih (by omega) with h | h
   ·cases e:tst c n
    ·exact .inr ⟨n,by omega,e,h⟩
    ·exact .inl fun j hj=>by
      by_cases k:j=n
      ·subst k;exact e
      ·exact h j (by omega)
   ·exact .inr h
 rcases key 9 (Nat.le_refl _) with h | h
 ·exact .inl (limB_iff.2 h)
 ·exact .inr h
def zeroB (c:Nat→Int):Bool:=eqF c zeroF
def chkB (c:Nat→Int):Bool:=zeroB c||limB c
def chkE (c:Nat→Int):Int:=if chkB c then 0 else 1
theorem lim_eq (c:Nat→Int):limB c=true ↔ (1≤c 2∧c 2≤8)∧(0≤c 0∧c 0≤63)∧(1≤c 1∧c 1≤1125899906842624)∧(0≤c 3∧c 3≤5)∧(0≤c 4∧c 4≤7)∧(0≤c 5∧c 5≤1073741824)∧(0≤c 6∧c 6≤2)∧(0≤c 7∧c 7≤1125899906842624)∧(0≤c 8∧c 8≤1125899906842624):=by
 rw [limB_iff]
 constructor
 ·intro h
  exact ⟨wi_iff.1 (h 0 (by omega)),wi_iff.1 (h 1 (by omega)),wi_iff.1 (h 2 (by omega)),wi_iff.1 (h 3 (by omega)),wi_iff.1 (h 4 (by omega)),wi_iff.1 (h 5 (by omega)),wi_iff.1 (h 6 (by omega)),wi_iff.1 (h 7 (by omega)),wi_iff.1 (h 8 (by omega))⟩
 ·rintro ⟨h0,h1,h2,h3,h4,h5,h6,h7,h8⟩ i hi
  match i,hi with
  | 0,_=>exact wi_iff.2 h0
  | 1,_=>exact wi_iff.2 h1
  | 2,_=>exact wi_iff.2 h2
  | 3,_=>exact wi_iff.2 h3
  | 4,_=>exact wi_iff.2 h4
  | 5,_=>exact wi_iff.2 h5
  | 6,_=>exact wi_iff.2 h6
  | 7,_=>exact wi_iff.2 h7
  | 8,_=>exact wi_iff.2 h8
def laneB (k:Int):Bool:=k==3||k==4||k==5||k==6||k==8
def meetB (a b:Nat→Int):Bool:=(a 2 != 0)&&(b 2 != 0)&&((a 0==b 0)||(laneB (a 2)&&laneB (b 2)&&(a 3==b 3)))
def fld:Nat→Nat
 | 0=>2 | 1=>0 | 2=>3 | 3=>4 | 4=>6 | 5=>1 | 6=>7 | 7=>8 | _=>5
def wd:Nat→Nat
 | 0=>1 | 1=>1 | 2=>1 | 3=>1 | 4=>1 | 5=>7 | 6=>7 | 7=>7 | _=>4
def pre:Nat→Nat
 | 0=>0
 | k+1=>pre k+wd k
end Go.Proofs.YtjhocpcpkemcaaaGreat.Cm
namespace Go.Proofs.YtjhocpcpkemcaaaGreat.Ex
open Bk (Bk Fl sumQ bestP cancel_cases)
open La (Ln placeN cancelN collectN RightN rightN rightN_iff placeN_keep cancelN_keep collectN_keep stl)
open Ac (Hd Pu pmay pmay_iff giveE giveL takeE takeL)
open Se (Rp Sn z5 fnd noteE noteL mk okS okS_iff)
open Cm (chkE chkB laneB meetB zeroB limB lim_eq)
structure Xc where
 free:List Hd
 lanes:List Ln
 sess:List Sn
 inn:List Hd
 out:List Hd
structure RightX (x:Xc):Prop where
 few:x.lanes.length≤6
 lane:∀ l∈x.lanes,RightN l
 free:Ac.Right x.free
 inn:Ac.Right x.inn
 out:Ac.Right x.out
 sess:Se.Right x.sess
noncomputable def rightX (x:Xc):Bool:=decide (x.lanes.length≤6)&&x.lanes.all rightN&&Ac.right x.free&&Ac.right x.inn&&Ac.right x.out&&Se.right x.sess
theorem rightX_iff {x:Xc}:rightX x=true ↔ RightX x:=by
 unfold rightX
 simp only [Bool.and_eq_true,decide_eq_true_eq,List.all_eq_true,rightN_iff,Ac.right_iff,Se.right_iff]
 exact ⟨fun ⟨⟨⟨⟨⟨a,b⟩,c⟩,d⟩,e⟩,f⟩=>⟨a,b,c,d,e,f⟩,fun ⟨a,b,c,d,e,f⟩=>⟨⟨⟨⟨⟨a,b⟩,c⟩,d⟩,e⟩,f⟩⟩
def execP (x:Xc) (c:Nat→Int):Xc × Int × Int × Int :=
 if c 2≠7∧c 8=0 then (x,1,0,0)
 else if c 2=1 then
  if giveE x.inn (c 0,c 4) (c 8)=0 then
   if giveE x.free (c 0,c 4) (c 8)=0 then
    ({ x with inn:=giveL x.inn (c 0,c 4) (c 8),free:=giveL x.free (c 0,c 4) (c 8) },0,Ac.get (giveL x.free (c 0,c 4) (c 8)) (c 0,c 4),0)
   else (x,giveE x.free (c 0,c 4) (c 8),0,0)
  else (x,giveE x.inn (c 0,c 4) (c 8),0,0)
 else if c 2=2 then
  if takeE x.free (c 0,c 4) (c 8)=0 then
   if giveE x.out (c 0,c 4) (c 8)=0 then
    ({ x with out:=giveL x.out (c 0,c 4) (c 8),free:=takeL x.free (c 0,c 4) (c 8) },0,Ac.get (takeL x.free (c 0,c 4) (c 8)) (c 0,c 4),0)
   else (x,giveE x.out (c 0,c 4) (c 8),0,0)
  else (x,takeE x.free (c 0,c 4) (c 8),0,0)
 else (x,0,Ac.get x.free (c 0,c 4),0)
noncomputable def act (l:Ln) (fr:List Hd) (c:Nat→Int):Ln × List Hd × Int × Int × Int :=
 if c 2=3∨c 2=4 then
  ((placeN l fr (c 0) (c 6) (c 7) (c 8) (c 2==3)).1,(placeN l fr (c 0) (c 6) (c 7) (c 8) (c 2==3)).2.1,(placeN l fr (c 0) (c 6) (c 7) (c 8) (c 2==3)).2.2.2.2,(placeN l fr (c 0) (c 6) (c 7) (c 8) (c 2==3)).2.2.2.1,sumQ (placeN l fr (c 0) (c 6) (c 7) (c 8) (c 2==3)).2.2.1)
 else if c 2=5 then
  ((cancelN l fr (c 0) (c 5)).1,(cancelN l fr (c 0) (c 5)).2.1,(cancelN l fr (c 0) (c 5)).2.2.2,(cancelN l fr (c 0) (c 5)).2.2.1,0)
 else if c 2=6 then
  ((collectN l fr (c 0)).1,(collectN l fr (c 0)).2.1,(collectN l fr (c 0)).2.2.2.2,(collectN l fr (c 0)).2.2.1,(collectN l fr (c 0)).2.2.2.1)
 else (l,fr,0,bestP l.2.2.1.1,bestP l.2.2.1.2.1)
noncomputable def execL (x:Xc) (c:Nat→Int):Xc × Int × Int × Int :=
 match x.lanes[(c 3).toNat]? with
 | none=>(x,8,0,0)
 | some l=>({ x with lanes:=x.lanes.set (c 3).toNat (act l x.free c).1,free:=(act l x.free c).2.1 },(act l x.free c).2.2)
noncomputable def exec (x:Xc) (c:Nat→Int):Xc × Int × Int × Int:=if laneB (c 2)=true then execL x c else execP x c
def rep (c:Nat→Int) (k:Int × Int × Int):Rp:=(c 0,c 1,k.1,k.2.1,k.2.2)
noncomputable def apply (x:Xc) (c:Nat→Int):Xc × Rp :=
 if rightX x=true∧chkE c=0 then
  if c 2=0 then (x,z5)
  else if (Se.look (c 0) (c 1) x.sess).2=0 then (x,(Se.look (c 0) (c 1) x.sess).1)
  else if (Se.look (c 0) (c 1) x.sess).2=13 then (x,rep c (13,0,0))
  else ({ (exec x c).1 with sess:=noteL (exec x c).1.sess (rep c (exec x c).2) },rep c (exec x c).2)
 else (x,rep c (1,0,0))
theorem chk_ok {c:Nat→Int} (h:chkE c=0) (h0:c 2≠0):(1≤c 2∧c 2≤8)∧(0≤c 0∧c 0≤63)∧(1≤c 1∧c 1≤1125899906842624)∧(0≤c 3∧c 3≤5)∧(0≤c 4∧c 4≤7):=by
 unfold chkE chkB at h
 have hz:zeroB c=false:=by
  cases e:zeroB c
  ·rfl
  ·exact absurd (Cm.eqF_iff.1 e 2 (by omega)) h0
 rw [hz,Bool.false_or] at h
 cases e:limB c
 ·rw [e] at h;exact absurd h (by decide)
 ·have:=(lim_eq c).1 e
  exact ⟨this.1,this.2.1,this.2.2.1,this.2.2.2.1,this.2.2.2.2.1⟩
theorem add_code (a b:Int):Mo.addE a b≠13:=by
 unfold Mo.addE Mo.add2
 split
 ·split<;>simp
 ·simp
theorem sub_code (a b:Int):Mo.subE a b≠13:=by
 unfold Mo.subE Mo.sub2
 split
 ·split<;>simp
 ·simp
theorem give_code (l:List Hd) (p:Pu) (n:Int):giveE l p n≠13:=by
 unfold giveE
 split
 ·exact add_code _ _
 ·decide
theorem take_code (l:List Hd) (p:Pu) (n:Int):takeE l p n≠13:=by
 unfold takeE
 split
 ·exact sub_code _ _
 ·decide
theorem stl_code {b q s:Int}:∀ (fs:List Fl) (ow:List Hd) (p g:Int),(stl b q s fs ow p g).2.2.2≠13
 | [],_,_,_=>by show (0:Int)≠13;decide
 | f :: r,ow,p,g=>by
  rw [stl]
  split
  ·exact stl_code r _ _ _
  ·exact give_code _ _ _
theorem fin_err (l:Ln) (fr:List Hd) (ow s p:Int) (C:Bk.Pl) (S:List Hd × Int × Int × Int):(La.fin l fr ow s p C S).2.2.2.2≠13∧((La.fin l fr ow s p C S).2.2.2.2=0∨La.fin l fr ow s p C S=(l,fr,[],0,(La.fin l fr ow s p C S).2.2.2.2)):=by
 unfold La.fin
 simp only
 generalize (if s=2 then l.1 else l.2.1)=ua
 generalize (if s=2 then l.2.1 else l.1)=ga
 generalize S.2.1+(if 0<C.2.2.2.1 then La.ndN s p C.2.2.1 else 0)=P
 by_cases h1:takeE fr (ow,ua) P=0
 ·rw [if_pos h1]
  by_cases h2:giveE (takeL fr (ow,ua) P) (ow,ga) S.2.2.1=0
  ·rw [if_pos h2];exact ⟨by show (0:Int)≠13;decide,.inl rfl⟩
  ·rw [if_neg h2];exact ⟨give_code _ _ _,.inr rfl⟩
 ·rw [if_neg h1];exact ⟨take_code _ _ _,.inr rfl⟩
theorem bplace_code (b:Bk) (ow s p q:Int) (rest:Bool):(Bk.place b ow s p q rest).2.2.2.2≠13:=by
 unfold Bk.place
 by_cases h:(Bk.rightB b&&Bk.argOk ow s p q)=true
 ·rw [if_pos h]
  cases Bk.tr ow s p (Le.flat (Bk.oth b s)) q with
  | none=>show (11:Int)≠13;decide
  | some r =>
   obtain ⟨fs,lf⟩:=r
   simp only
   by_cases h1:rest=true∧0<lf
   ·rw [if_pos h1]
    by_cases h2:40≤(Bk.cntB b:Int) - (Bk.dn fs:Nat)∨b.2.2=1073741824
    ·rw [if_pos h2];show (10:Int)≠13;decide
    ·rw [if_neg h2];show (0:Int)≠13;decide
   ·rw [if_neg h1];show (0:Int)≠13;decide
 ·rw [if_neg h];show (1:Int)≠13;decide
theorem place_err (l:Ln) (fr:List Hd) (ow s p q:Int) (rest:Bool):(placeN l fr ow s p q rest).2.2.2.2≠13∧((placeN l fr ow s p q rest).2.2.2.2=0∨placeN l fr ow s p q rest=(l,fr,[],0,(placeN l fr ow s p q rest).2.2.2.2)):=by
 unfold placeN
 by_cases h:(rightN l&&Ac.right fr)=true
 ·rw [if_pos h]
  simp only
  by_cases h1:(Bk.place l.2.2.1 ow s p q rest).2.2.2.2=0
  ·rw [if_pos h1]
   by_cases h2:(stl l.1 l.2.1 s (Bk.place l.2.2.1 ow s p q rest).2.1 l.2.2.2 0 0).2.2.2=0
   ·rw [if_pos h2];exact fin_err _ _ _ _ _ _ _
   ·rw [if_neg h2];exact ⟨stl_code _ _ _ _,.inr rfl⟩
  ·rw [if_neg h1];exact ⟨bplace_code _ _ _ _ _ _,.inr rfl⟩
 ·rw [if_neg h];exact ⟨by show (1:Int)≠13;decide,.inr rfl⟩
theorem cancel_err {l:Ln} {fr:List Hd} (ow id:Int):(cancelN l fr ow id).2.2.2≠13∧((cancelN l fr ow id).2.2.2=0∨cancelN l fr ow id=(l,fr,0,(cancelN l fr ow id).2.2.2)):=by
 unfold cancelN
 split
 ·have hc:(Bk.cancel l.2.2.1 ow id).2.2≠13:=by
   unfold Bk.cancel
   split
   ·split
    ·show (8:Int)≠13;decide
    ·split
     ·show (0:Int)≠13;decide
     ·show (9:Int)≠13;decide
   ·show (1:Int)≠13;decide
  generalize Bk.cancel l.2.2.1 ow id=r at hc
  obtain ⟨c1,o,e⟩:=r
  cases o with
  | none=>exact ⟨hc,.inr rfl⟩
  | some o =>
   simp only
   split
   ·split
    ·exact ⟨by show (0:Int)≠13;decide,.inl rfl⟩
    ·exact ⟨give_code _ _ _,.inr rfl⟩
   ·exact ⟨hc,.inr rfl⟩
 ·exact ⟨by show (1:Int)≠13;decide,.inr rfl⟩
theorem collect_err {l:Ln} {fr:List Hd} (ow:Int):(collectN l fr ow).2.2.2.2≠13∧((collectN l fr ow).2.2.2.2=0∨collectN l fr ow=(l,fr,0,0,(collectN l fr ow).2.2.2.2)):=by
 unfold collectN
 split
 ·simp only
  split
  ·exact ⟨by show (16:Int)≠13;decide,.inr rfl⟩
  ·split
   ·split
    ·exact ⟨by show (0:Int)≠13;decide,.inl rfl⟩
    ·exact ⟨give_code _ _ _,.inr rfl⟩
   ·exact ⟨give_code _ _ _,.inr rfl⟩
 ·exact ⟨by show (1:Int)≠13;decide,.inr rfl⟩
structure ActK (l:Ln) (fr:List Hd) (ow:Int) (R:Ln × List Hd × Int × Int × Int):Prop where
 keep:La.Keeps l R.1 fr R.2.1 ow
 err:R.2.2.1≠0→R=(l,fr,R.2.2.1,0,0)
 code:R.2.2.1≠13
theorem act_keep {l:Ln} {fr:List Hd} (h:RightN l) (hf:Ac.Right fr) (c:Nat→Int):ActK l fr (c 0) (act l fr c):=by
 unfold act
 split
 ·refine ⟨(placeN_keep h hf _ _ _ _ _).1,fun he=>?_,(place_err _ _ _ _ _ _ _).1⟩
  rcases (place_err l fr (c 0) (c 6) (c 7) (c 8) (c 2==3)).2 with k | k
  ·exact absurd k he
  ·generalize placeN l fr (c 0) (c 6) (c 7) (c 8) (c 2==3)=R at k
   rw [k];rfl
 ·split
  ·refine ⟨(cancelN_keep h hf _ _).1,fun he=>?_,(cancel_err _ _).1⟩
   rcases (cancel_err (l:=l) (fr:=fr) (c 0) (c 5)).2 with k | k
   ·exact absurd k he
   ·generalize cancelN l fr (c 0) (c 5)=R at k
    rw [k]
  ·split
   ·refine ⟨(collectN_keep h hf _).1,fun he=>?_,(collect_err _).1⟩
    rcases (collect_err (l:=l) (fr:=fr) (c 0)).2 with k | k
    ·exact absurd k he
    ·generalize collectN l fr (c 0)=R at k
     rw [k]
   ·exact ⟨La.Keeps.refl h hf _,fun he=>absurd rfl he,by show (0:Int)≠13;decide⟩
end Go.Proofs.YtjhocpcpkemcaaaGreat.Ex
