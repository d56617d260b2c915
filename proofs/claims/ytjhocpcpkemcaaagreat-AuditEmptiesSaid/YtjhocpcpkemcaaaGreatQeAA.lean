/- Plain mathematics of layer 8: orders as (id, owner, side, price, left), levels as a price with its orders. -/
import Derived.Test.YtjhocpcpkemcaaaGreatQeZZ
import Derived.WalkKit
set_option linter.unusedVariables false
set_option maxRecDepth 16000
set_option maxHeartbeats 32000000
namespace Go.Proofs.YtjhocpcpkemcaaaGreat.Le
abbrev Od:=Int × Int × Int × Int × Int
def oid (o:Od):Int:=o.1
def opr (o:Od):Int:=o.2.2.2.1
abbrev Lv:=Int × List Od
def omay (o:Od) (s:Int):Bool:=decide (1≤o.1∧o.1≤1073741824∧0≤o.2.1∧o.2.1<64∧o.2.2.1=s∧1≤o.2.2.2.1∧o.2.2.2.1≤1048576∧1≤o.2.2.2.2∧o.2.2.2.2≤1048576)
theorem omay_iff {o:Od} {s:Int}:omay o s=true ↔ 1≤o.1∧o.1≤1073741824∧0≤o.2.1∧o.2.1<64∧o.2.2.1=s∧1≤o.2.2.2.1∧o.2.2.2.1≤1048576∧1≤o.2.2.2.2∧o.2.2.2.2≤1048576:=by simp [omay]
def ahead (s a b:Int):Bool:=if s=1 then decide (b<a) else decide (a<b)
theorem ahead_trans {s a b c:Int} (h:ahead s a b=true) (k:ahead s b c=true):ahead s a c=true:=by
 by_cases e:s=1<;>simp [ahead,e] at *<;>omega
theorem ahead_irrefl (s a:Int):ahead s a a=false:=by unfold ahead;split<;>simp
theorem ahead_asymm {s a b:Int} (h:ahead s a b=true):ahead s b a=false:=by
 by_cases e:s=1<;>simp [ahead,e] at *<;>omega
theorem ahead_tri {s a b:Int} (h:ahead s a b=false) (k:ahead s b a=false):a=b:=by
 by_cases e:s=1<;>simp [ahead,e] at *<;>omega
def flat (l:List Lv):List Od:=l.flatMap (·.2)
theorem flat_nil:flat []=[]:=rfl
theorem flat_cons (v:Lv) (l:List Lv):flat (v :: l)=v.2++flat l:=rfl
theorem flat_app (l m:List Lv):flat (l++m)=flat l++flat m:=List.flatMap_append
def hasId (id:Int) (o:Od):Bool:=o.1==id
def fnd (l:List Od) (id:Int):Option Od:=l.find? (hasId id)
def okLv (s:Int) (v:Lv):Prop:=v.2≠[]∧∀ o∈v.2,omay o s=true∧opr o=v.1
def RightL (s:Int) (l:List Lv):Prop:=(s=1∨s=2)∧(∀ v∈l,okLv s v)∧l.Pairwise (fun a b=>ahead s a.1 b.1=true)∧((flat l).map oid).Nodup
noncomputable def rightL (s:Int) (l:List Lv):Bool:=@decide (RightL s l) (Classical.propDecidable _)
theorem rightL_iff {s:Int} {l:List Lv}:rightL s l=true ↔ RightL s l:=by unfold rightL;exact @decide_eq_true_iff _ (Classical.propDecidable _)
theorem rightL_no {s:Int} {l:List Lv} (h:¬ RightL s l):rightL s l=false:=by
 cases e:rightL s l
 ·rfl
 ·exact absurd (rightL_iff.1 e) h
theorem right_cons {s:Int} {v:Lv} {l:List Lv}:RightL s (v :: l) ↔ (s=1∨s=2)∧okLv s v∧(∀ u∈l,ahead s v.1 u.1=true)∧(∀ o∈v.2,∀ p∈flat l,oid o≠oid p)∧(v.2.map oid).Nodup∧RightL s l:=by
 unfold RightL
 rw [List.pairwise_cons,flat_cons,List.map_append,List.nodup_append]
 constructor
 ·rintro ⟨a,b,⟨c,d⟩,e,f,g⟩
  exact ⟨a,b v List.mem_cons_self,c,fun o ho p hp=>g _ (List.mem_map_of_mem ho) _ (List.mem_map_of_mem hp),e,a,fun u hu=>b u (List.mem_cons_of_mem _ hu),d,f⟩
 ·rintro ⟨a,b,c,d,e,f,g,h,i⟩
  refine ⟨a,fun u hu=>?_,⟨c,h⟩,e,i,fun x hx y hy=>?_⟩
  ·rcases List.mem_cons.1 hu with rfl | hu
   ·exact b
   ·exact g u hu
  ·obtain ⟨o,ho,rfl⟩:=List.mem_map.1 hx
   obtain ⟨p,hp,rfl⟩:=List.mem_map.1 hy
   exact d o ho p hp
theorem right_nil {s:Int} (h:s=1∨s=2):RightL s []:=⟨h,by simp,List.Pairwise.nil,by simp [flat]⟩
def putL (s:Int) (o:Od):List Lv→List Lv
 | []=>[(opr o,[o])]
 | v :: r=>if v.1=opr o then (v.1,v.2++[o]) :: r else if ahead s (opr o) v.1=true then (opr o,[o]) :: v :: r else v :: putL s o r
noncomputable def putE (l:List Lv) (o:Od):Int:=if rightL o.2.2.1 l&&omay o o.2.2.1&&(fnd (flat l) o.1).isNone then 0 else 1
noncomputable def put (l:List Lv) (o:Od):List Lv:=if putE l o=0 then putL o.2.2.1 o l else l
def remO (id:Int):List Od→Bool→List Od
 | [],_=>[]
 | o :: r,d=>if hasId id o&&!d then remO id r true else o :: remO id r d
theorem remO_snoc (id:Int) (o:Od):∀ (l:List Od) (d:Bool),remO id (l++[o]) d=remO id l d++(if hasId id o&&!(d||l.any (hasId id)) then [] else [o])
 | [],d=>by
  rw [List.nil_append,List.any_nil,Bool.or_false]
  show remO id [o] d=[]++_
  rw [remO,remO,remO,List.nil_append]
 | p :: r,d=>by
  rw [List.cons_append,remO,remO,List.any_cons]
  cases h:hasId id p&&!d
  ·rw [if_neg (by decide),if_neg (by decide),remO_snoc,List.cons_append]
   cases d
   ·have hp:hasId id p=false:=by simpa using h
    simp only [hp,Bool.false_or]
   ·simp
  ·rw [if_pos rfl,if_pos rfl,remO_snoc]
   have hp:hasId id p=true:=by simp at h;exact h.1
   rw [hp];simp
def remS (id:Int) (v:Lv) (d:Bool):List Lv:=if remO id v.2 d=[] then [] else [(v.1,remO id v.2 d)]
def remL (id:Int):List Lv→Bool→List Lv
 | [],_=>[]
 | v :: r,d=>remS id v d++remL id r (d||v.2.any (hasId id))
def rem (l:List Lv) (id:Int):List Lv:=remL id l false
theorem remL_len (id:Int):∀ (l:List Lv) (d:Bool),(remL id l d).length≤l.length
 | [],d=>Nat.le_refl _
 | v :: r,d=>by
  rw [remL,List.length_append]
  have:=remL_len id r (d||v.2.any (hasId id))
  unfold remS
  split<;>simp<;>omega
theorem flat_put {s:Int} {o:Od}:∀ {l:List Lv},((flat (putL s o l)).Perm (o :: flat l))
 | []=>by simp [putL,flat]
 | v :: r=>by
  rw [putL]
  split
  ·rw [flat_cons,flat_cons,List.append_assoc]
   exact List.perm_middle
  ·split
   ·exact List.Perm.refl _
   ·rw [flat_cons,flat_cons]
    exact ((flat_put (l:=r)).append_left v.2).trans List.perm_middle
theorem mem_put_price {s:Int} {o:Od}:∀ {l:List Lv} {v:Lv},v∈putL s o l→v.1=opr o∨∃ u∈l,u.1=v.1
 | [],v,h=>by simp [putL] at h;subst h;exact .inl rfl
 | u :: r,v,h=>by
  rw [putL] at h
  split at h
  ·rename_i e
   rcases List.mem_cons.1 h with rfl | h
   ·exact .inl e
   ·exact .inr ⟨v,List.mem_cons_of_mem _ h,rfl⟩
  ·split at h
   ·rcases List.mem_cons.1 h with rfl | h
    ·exact .inl rfl
    ·exact .inr ⟨v,h,rfl⟩
   ·rcases List.mem_cons.1 h with rfl | h
    ·exact .inr ⟨v,List.mem_cons_self,rfl⟩
    ·rcases mem_put_price h with e | ⟨w,hw,e⟩
     ·exact .inl e
     ·exact .inr ⟨w,List.mem_cons_of_mem _ hw,e⟩
theorem put_ok {s:Int} {o:Od} (ho:omay o s=true):∀ {l:List Lv},(∀ v∈l,okLv s v)→∀ v∈putL s o l,okLv s v
 | [],_,v,h=>by
  simp [putL] at h;subst h
  exact ⟨by simp,fun x hx=>by simp at hx;subst hx;exact ⟨ho,rfl⟩⟩
 | u :: r,hl,v,h=>by
  have hu:=hl u List.mem_cons_self
  have hr:∀ v∈r,okLv s v:=fun x hx=>hl x (List.mem_cons_of_mem _ hx)
  rw [putL] at h
  split at h
  ·rename_i e
   rcases List.mem_cons.1 h with rfl | h
   ·exact ⟨by simp,fun x hx=>by
     rcases List.mem_append.1 hx with hx | hx
     ·exact hu.2 x hx
     ·simp at hx;subst hx;exact ⟨ho,e.symm⟩⟩
   ·exact hr v h
  ·split at h
   ·rcases List.mem_cons.1 h with rfl | h
    ·exact ⟨by simp,fun x hx=>by simp at hx;subst hx;exact ⟨ho,rfl⟩⟩
    ·exact hl v h
   ·rcases List.mem_cons.1 h with rfl | h
    ·exact hu
    ·exact put_ok ho hr v h
theorem put_sorted {s:Int} {o:Od}:∀ {l:List Lv},l.Pairwise (fun a b=>ahead s a.1 b.1=true)→(putL s o l).Pairwise (fun a b=>ahead s a.1 b.1=true)
 | [],_=>by simp [putL]
 | u :: r,h=>by
  rw [List.pairwise_cons] at h
  rw [putL]
  split
  ·rename_i e
   exact List.pairwise_cons.2 ⟨h.1,h.2⟩
  ·rename_i e
   split
   ·rename_i a
    refine List.pairwise_cons.2 ⟨fun v hv=>?_,List.pairwise_cons.2 h⟩
    rcases List.mem_cons.1 hv with rfl | hv
    ·exact a
    ·exact ahead_trans a (h.1 v hv)
   ·rename_i a
    have hb:ahead s u.1 (opr o)=true:=by
     cases k:ahead s u.1 (opr o)
     ·exact absurd (ahead_tri k (by simpa using a)) e
     ·rfl
    refine List.pairwise_cons.2 ⟨fun v hv=>?_,put_sorted h.2⟩
    rcases mem_put_price hv with e | ⟨w,hw,e⟩
    ·rw [e];exact hb
    ·rw [← e];exact h.1 w hw
theorem fnd_none {l:List Od} {id:Int}:fnd l id=none ↔ ∀ o∈l,o.1≠id:=by
 unfold fnd;rw [List.find?_eq_none]
 constructor
 ·intro h o ho e;exact h o ho (by simp [hasId,e])
 ·intro h o ho e;exact h o ho (by simpa [hasId] using e)
theorem right_put {l:List Lv} {o:Od} {s:Int} (hr:RightL s l) (ho:omay o s=true) (hn:fnd (flat l) o.1=none):RightL s (putL s o l):=by
 obtain ⟨a,b,c,d⟩:=hr
 refine ⟨a,put_ok ho b,put_sorted c,?_⟩
 have hp:=(flat_put (s:=s) (o:=o) (l:=l)).map oid
 rw [hp.nodup_iff,List.map_cons,List.nodup_cons]
 refine ⟨fun hm=>?_,d⟩
 obtain ⟨p,hp2,e⟩:=List.mem_map.1 hm
 exact fnd_none.1 hn p hp2 e
end Go.Proofs.YtjhocpcpkemcaaaGreat.Le
