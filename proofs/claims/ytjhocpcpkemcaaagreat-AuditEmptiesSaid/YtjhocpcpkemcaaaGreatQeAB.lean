/- Pure: what is put is found, and removed again all is as it was. -/
import Derived.Test.YtjhocpcpkemcaaaGreatQeZZ
import Derived.Test.YtjhocpcpkemcaaaGreatQeAA
set_option linter.unusedVariables false
set_option maxRecDepth 16000
set_option maxHeartbeats 32000000
namespace Go.Proofs.YtjhocpcpkemcaaaGreat.Le
theorem hasId_self (o:Od):hasId o.1 o=true:=by simp [hasId]
theorem hasId_no {id:Int} {o:Od} (h:o.1≠id):hasId id o=false:=by simpa [hasId] using h
theorem any_no {id:Int} {l:List Od} (h:∀ o∈l,o.1≠id):l.any (hasId id)=false:=by
 rw [List.any_eq_false];intro o ho;rw [hasId_no (h o ho)];decide
theorem remO_true (id:Int):∀ (l:List Od),remO id l true=l
 | []=>rfl
 | o :: r=>by
  rw [remO,remO_true id r]
  cases hasId id o<;>rfl
theorem remO_none {id:Int}:∀ {l:List Od},(∀ o∈l,o.1≠id)→remO id l false=l
 | [],_=>rfl
 | o :: r,h=>by
  rw [remO,hasId_no (h o List.mem_cons_self),remO_none fun p hp=>h p (List.mem_cons_of_mem _ hp)];rfl
theorem remL_true (id:Int):∀ (l:List Lv),(∀ v∈l,v.2≠[])→remL id l true=l
 | [],_=>rfl
 | v :: r,h=>by
  rw [remL,Bool.true_or,remL_true id r fun u hu=>h u (List.mem_cons_of_mem _ hu)]
  unfold remS
  rw [remO_true,if_neg (h v List.mem_cons_self)];rfl
theorem remO_last {o:Od} {l:List Od} (h:∀ p∈l,p.1≠o.1):remO o.1 (l++[o]) false=l:=by
 rw [remO_snoc,remO_none h,hasId_self,any_no h];simp
theorem flat_mem {v:Lv} {l:List Lv} {p:Od}:p∈flat (v :: l) ↔ p∈v.2∨p∈flat l:=by rw [flat_cons,List.mem_append]
theorem rem_put {s:Int} {o:Od}:∀ {l:List Lv},(∀ v∈l,v.2≠[])→(∀ p∈flat l,p.1≠o.1)→remL o.1 (putL s o l) false=l
 | [],_,_=>by
  rw [putL,remL,remL,List.append_nil]
  unfold remS
  rw [show remO o.1 (opr o,[o]).2 false=[] from remO_last (l:=[]) (by simp),if_pos rfl]
 | v :: r,hn,hp=>by
  have hv:∀ p∈v.2,p.1≠o.1:=fun p h=>hp p (flat_mem.2 (.inl h))
  have hr:∀ p∈flat r,p.1≠o.1:=fun p h=>hp p (flat_mem.2 (.inr h))
  have hnr:∀ u∈r,u.2≠[]:=fun u hu=>hn u (List.mem_cons_of_mem _ hu)
  rw [putL]
  split
  ·rw [remL,show (false||(v.1,v.2++[o]).2.any (hasId o.1))=true by simp [hasId],remL_true _ _ hnr]
   unfold remS
   rw [show remO o.1 (v.1,v.2++[o]).2 false=v.2 from remO_last hv,if_neg (hn v List.mem_cons_self)];rfl
  ·split
   ·rw [remL,show (false||(opr o,[o]).2.any (hasId o.1))=true by simp [hasId],remL_true _ _ hn]
    unfold remS
    rw [show remO o.1 (opr o,[o]).2 false=[] from remO_last (l:=[]) (by simp),if_pos rfl];rfl
   ·rw [remL,any_no hv,Bool.or_self,rem_put hnr hr]
    unfold remS
    rw [remO_none hv,if_neg (hn v List.mem_cons_self)];rfl
theorem find_no {id:Int} {l:List Od} (h:∀ p∈l,p.1≠id):l.find? (hasId id)=none:=by
 rw [List.find?_eq_none];intro p hp;rw [hasId_no (h p hp)];decide
theorem fnd_put {s:Int} {o:Od}:∀ {l:List Lv},(∀ p∈flat l,p.1≠o.1)→fnd (flat (putL s o l)) o.1=some o
 | [],_=>by rw [putL,flat_cons];unfold fnd;simp [flat,hasId]
 | v :: r,hp=>by
  have hv:∀ p∈v.2,p.1≠o.1:=fun p h=>hp p (flat_mem.2 (.inl h))
  have hr:∀ p∈flat r,p.1≠o.1:=fun p h=>hp p (flat_mem.2 (.inr h))
  rw [putL]
  split
  ·rw [flat_cons];unfold fnd
   rw [List.find?_append,List.find?_append,find_no hv,List.find?_cons,hasId_self];rfl
  ·split
   ·rw [flat_cons];unfold fnd
    rw [List.find?_append,List.find?_cons,hasId_self];rfl
   ·rw [flat_cons]
    have:=fnd_put (s:=s) hr
    unfold fnd at this ⊢
    rw [List.find?_append,find_no hv,this];rfl
theorem put_ok0 {l:List Lv} {o:Od} (h:putE l o=0):RightL o.2.2.1 l∧omay o o.2.2.1=true∧(∀ p∈flat l,p.1≠o.1)∧put l o=putL o.2.2.1 o l:=by
 have hp:put l o=putL o.2.2.1 o l:=by unfold put;rw [if_pos h]
 unfold putE at h
 split at h
 ·rename_i hc
  simp only [Bool.and_eq_true] at hc
  exact ⟨rightL_iff.1 hc.1.1,hc.1.2,fnd_none.1 (by have:=hc.2;rwa [Option.isNone_iff_eq_none] at this),hp⟩
 ·cases h
theorem back {l:List Lv} {o:Od} (h:putE l o=0):fnd (flat (put l o)) o.1=some o∧rem (put l o) o.1=l∧RightL o.2.2.1 (put l o)∧(flat (put l o)).length=(flat l).length+1:=by
 obtain ⟨hr,ho,hn,hp⟩:=put_ok0 h
 rw [hp]
 refine ⟨fnd_put hn,rem_put (fun v hv=>(hr.2.1 v hv).1) hn,right_put hr ho (fnd_none.2 hn),?_⟩
 rw [(flat_put (s:=o.2.2.1) (o:=o) (l:=l)).length_eq];simp
end Go.Proofs.YtjhocpcpkemcaaaGreat.Le
