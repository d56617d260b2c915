/- Plain mathematics of layer 10: lanes. -/
import Derived.Test.YtjhocpcpkemcaaaGreatQeZZ
import Derived.Test.YtjhocpcpkemcaaaGreatQeAC
import Derived.Test.YtjhocpcpkemcaaaGreatQeAD
set_option linter.unusedVariables false
set_option maxRecDepth 16000
set_option maxHeartbeats 32000000
namespace Go.Proofs.YtjhocpcpkemcaaaGreat.La
open Le
open Bk
open Ac (Hd Pu pmay pmay_iff tot total giveE giveL takeE takeL)
abbrev Ln:=Int × Int × Bk × List Hd
def pairOk (b q:Int):Bool:=decide (0≤b∧b<8∧0≤q∧q<8∧b≠q)
theorem pairOk_iff {b q:Int}:pairOk b q=true ↔ 0≤b∧b<8∧0≤q∧q<8∧b≠q:=by simp [pairOk]
def newE (b q:Int):Int:=if pairOk b q=true then 0 else 1
def newN (b q:Int):Ln:=if pairOk b q=true then (b,q,([],[],1),[]) else (0,0,([],[],0),[])
def only (b q:Int) (l:List Hd):Bool:=l.all fun h=>h.2.1==b||h.2.1==q
structure RightN (l:Ln):Prop where
 pair:pairOk l.1 l.2.1=true
 book:RightB l.2.2.1
 owed:Ac.Right l.2.2.2
 only':only l.1 l.2.1 l.2.2.2=true
noncomputable def rightN (l:Ln):Bool:=pairOk l.1 l.2.1&&rightB l.2.2.1&&Ac.right l.2.2.2&&only l.1 l.2.1 l.2.2.2
theorem rightN_iff {l:Ln}:rightN l=true ↔ RightN l:=by
 unfold rightN
 simp only [Bool.and_eq_true,rightB_iff,Ac.right_iff]
 exact ⟨fun ⟨⟨⟨a,b⟩,c⟩,d⟩=>⟨a,b,c,d⟩,fun ⟨a,b,c,d⟩=>⟨⟨⟨a,b⟩,c⟩,d⟩⟩
def ndA (b q s:Int):Int:=if s=1 then q else b
def ndN (s p n:Int):Int:=if s=1 then p*n else n
def rsv (b q a:Int):List Od→Int
 | []=>0
 | o :: r=>(if ndA b q o.2.2.1=a then ndN o.2.2.1 o.2.2.2.1 o.2.2.2.2 else 0)+rsv b q a r
theorem rsv_app (b q a:Int) (l m:List Od):rsv b q a (l++m)=rsv b q a l+rsv b q a m:=by
 induction l with
 | nil=>simp [rsv]
 | cons o r ih=>rw [List.cons_append,rsv,rsv,ih];omega
theorem rsv_perm (b q a:Int) {l m:List Od} (h:l.Perm m):rsv b q a l=rsv b q a m:=by
 induction h with
 | nil=>rfl
 | cons x _ ih=>rw [rsv,rsv,ih]
 | swap x y l=>rw [rsv,rsv,rsv,rsv];omega
 | trans _ _ h1 h2=>rw [h1,h2]
theorem mul_bd {p n:Int} (h1:0≤p) (h2:p≤1048576) (h3:0≤n) (h4:n≤1048576):0≤p*n∧p*n≤1099511627776:=by
 refine ⟨Int.mul_nonneg h1 h3,?_⟩
 have a:=Int.mul_le_mul_of_nonneg_right h2 h3
 have b:=Int.mul_le_mul_of_nonneg_left h4 (show (0:Int)≤1048576 by decide)
 omega
theorem ndN_bd {s p n:Int} (h1:0≤p) (h2:p≤1048576) (h3:0≤n) (h4:n≤1048576):0≤ndN s p n∧ndN s p n≤1099511627776:=by
 unfold ndN
 split
 ·exact mul_bd h1 h2 h3 h4
 ·omega
def okO (o:Od):Prop:=0≤o.2.2.2.1∧o.2.2.2.1≤1048576∧0≤o.2.2.2.2∧o.2.2.2.2≤1048576
theorem rsv_bd {b q a:Int}:∀ {l:List Od},(∀ o∈l,okO o)→0≤rsv b q a l∧rsv b q a l≤l.length*1099511627776
 | [],_=>by simp [rsv]
 | o :: r,h=>by
  obtain ⟨h1,h2,h3,h4⟩:=h o List.mem_cons_self
  have hb:=ndN_bd (s:=o.2.2.1) h1 h2 h3 h4
  have ih:=rsv_bd (b:=b) (q:=q) (a:=a) (l:=r) fun x hx=>h x (List.mem_cons_of_mem _ hx)
  rw [rsv,List.length_cons]
  have e:((r.length+1:Nat):Int)*1099511627776=r.length*1099511627776+1099511627776:=by rw [Int.natCast_add,Int.add_mul];omega
  rw [e]
  split<;>omega
def allO (b:Bk):List Od:=flat b.1++flat b.2.1
theorem okO_of {b:Bk} (h:RightB b):∀ o∈allO b,okO o:=fun o ho=>by
 unfold allO at ho
 unfold okO
 rcases List.mem_append.1 ho with h1 | h1
 ·have:=omay_iff.1 (mem_may h.buys h1);omega
 ·have:=omay_iff.1 (mem_may h.sells h1);omega
noncomputable def reserved (l:Ln) (a:Int):Int:=if rightN l=true then rsv l.1 l.2.1 a (allO l.2.2.1) else 0
noncomputable def owedN (l:Ln) (a:Int):Int:=if rightN l=true then total l.2.2.2 a else 0
def payF (s:Int) (f:Fl):Int:=if s=1 then f.2.2.1*f.2.2.2.1 else f.2.2.2.1
def getF (s:Int) (f:Fl):Int:=if s=1 then f.2.2.2.1 else f.2.2.1*f.2.2.2.1
def astF (b q s:Int):Int:=if s=1 then q else b
def stl (b q s:Int):List Fl→List Hd→Int→Int→List Hd × Int × Int × Int
 | [],ow,p,g=>(ow,p,g,0)
 | f :: r,ow,p,g =>
  if giveE ow (f.2.1,astF b q s) (payF s f)=0 then stl b q s r (giveL ow (f.2.1,astF b q s) (payF s f)) (p+payF s f) (g+getF s f)
  else (ow,0,0,giveE ow (f.2.1,astF b q s) (payF s f))
abbrev PN:=Ln × List Hd × List Fl × Int × Int
def fin (l:Ln) (fr:List Hd) (ow s p:Int) (C:Pl) (S:List Hd × Int × Int × Int):PN :=
 let P:=S.2.1+(if 0<C.2.2.2.1 then ndN s p C.2.2.1 else 0)
 let u:Pu:=(ow,if s=2 then l.1 else l.2.1)
 let g:Pu:=(ow,if s=2 then l.2.1 else l.1)
 if takeE fr u P=0 then
  if giveE (takeL fr u P) g S.2.2.1=0 then ((l.1,l.2.1,C.1,S.1),giveL (takeL fr u P) g S.2.2.1,C.2.1,C.2.2.2.1,0)
  else (l,fr,[],0,giveE (takeL fr u P) g S.2.2.1)
 else (l,fr,[],0,takeE fr u P)
noncomputable def placeN (l:Ln) (fr:List Hd) (ow s p q:Int) (rest:Bool):PN :=
 if rightN l&&Ac.right fr then
  let C:=place l.2.2.1 ow s p q rest
  if C.2.2.2.2=0 then
   let S:=stl l.1 l.2.1 s C.2.1 l.2.2.2 0 0
   if S.2.2.2=0 then fin l fr ow s p C S else (l,fr,[],0,S.2.2.2)
  else (l,fr,[],0,C.2.2.2.2)
 else (l,fr,[],0,1)
noncomputable def cancelN (l:Ln) (fr:List Hd) (ow id:Int):Ln × List Hd × Int × Int :=
 if rightN l&&Ac.right fr then
  match cancel l.2.2.1 ow id with
  | (c,some o,e) =>
   if e=0 then
    let u:Pu:=(ow,ndA l.1 l.2.1 o.2.2.1)
    let n:=ndN o.2.2.1 o.2.2.2.1 o.2.2.2.2
    if giveE fr u n=0 then ((l.1,l.2.1,c,l.2.2.2),giveL fr u n,n,0) else (l,fr,0,giveE fr u n)
   else (l,fr,0,e)
  | (_,none,e)=>(l,fr,0,e)
 else (l,fr,0,1)
noncomputable def collectN (l:Ln) (fr:List Hd) (ow:Int):Ln × List Hd × Int × Int × Int :=
 if rightN l&&Ac.right fr then
  let x:=Ac.get l.2.2.2 (ow,l.1)
  let y:=Ac.get l.2.2.2 (ow,l.2.1)
  if x=0∧y=0 then (l,fr,0,0,16)
  else if giveE fr (ow,l.1) x=0 then
   if giveE (giveL fr (ow,l.1) x) (ow,l.2.1) y=0 then
    ((l.1,l.2.1,l.2.2.1,takeL (takeL l.2.2.2 (ow,l.1) x) (ow,l.2.1) y),giveL (giveL fr (ow,l.1) x) (ow,l.2.1) y,x,y,0)
   else (l,fr,0,0,giveE (giveL fr (ow,l.1) x) (ow,l.2.1) y)
  else (l,fr,0,0,giveE fr (ow,l.1) x)
 else (l,fr,0,0,1)
end Go.Proofs.YtjhocpcpkemcaaaGreat.La
