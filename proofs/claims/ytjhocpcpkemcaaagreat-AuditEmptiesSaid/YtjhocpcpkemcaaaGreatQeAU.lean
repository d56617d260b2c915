/- The document's own: trades. -/
import Derived.Test.YtjhocpcpkemcaaaGreatQeZZ
import Derived.Test.YtjhocpcpkemcaaaGreatQeAT
import Derived.Test.YtjhocpcpkemcaaaGreatQeAR
set_option linter.unusedVariables false
set_option maxRecDepth 16000
set_option maxHeartbeats 32000000
namespace Go.Proofs.YtjhocpcpkemcaaaGreat.Bk
open Go.RowKit
open Rw
open Da
open Le
def Cat (gs:List Fl) (r:Option (List Fl × Int)):Option (List Fl × Int):=r.map fun x=>(gs++x.1,x.2)
theorem cat_nil (r:Option (List Fl × Int)):Cat [] r=r:=by cases r<;>rfl
theorem cat_stop {ow s p q:Int} {o:Od} {r:List Od} {gs:List Fl} (h:q=0∨meets s p (opr o)=false):Cat gs (tr ow s p (o :: r) q)=some (gs,q):=by
 rw [tr,if_pos h];simp [Cat]
theorem cat_self {ow s p q:Int} {o:Od} {r:List Od} {gs:List Fl} (h:¬ (q=0∨meets s p (opr o)=false)) (k:oow o=ow):Cat gs (tr ow s p (o :: r) q)=none:=by
 rw [tr,if_neg h,if_pos k];rfl
theorem cat_go {ow s p q:Int} {o:Od} {r:List Od} {gs:List Fl} (h:¬ (q=0∨meets s p (opr o)=false)) (k:¬ oow o=ow):Cat gs (tr ow s p (o :: r) q)=Cat (gs++[mkF o (min q (olf o))]) (tr ow s p r (q - min q (olf o))):=by
 rw [tr,if_neg h,if_neg k]
 cases tr ow s p r (q - min q (olf o)) with
 | none=>rfl
 | some x=>simp [Cat]
theorem best_some {s:Int} {l:List Lv} {x:Od} (h:RightL s l) (hx:(flat l).head?=some x):bestP l=opr x∧1≤opr x∧x∈flat l:=by
 have hm:x∈flat l:=List.mem_of_head? hx
 have:=mem_may h hm
 rw [omay_iff] at this
 refine ⟨by unfold bestP;rw [hx],by unfold opr;omega,hm⟩
theorem best_none {l:List Lv} (hx:(flat l).head?=none):bestP l=0∧flat l=[]:=⟨by unfold bestP;rw [hx],List.head?_eq_none_iff.1 hx⟩
theorem rightB_make {b:Bk} (n1:1≤b.2.2) (n2:b.2.2≤1073741824) (h1:RightL 1 b.1) (h2:RightL 2 b.2.1) (hc:cntB b≤40) (ha:∀ o∈flat b.1,fnd (flat b.2.1) o.1=none∧o.1<b.2.2) (hs:∀ o∈flat b.2.1,o.1<b.2.2) :
  rightB b=(decide (bestP b.1=0)||(decide (bestP b.2.1=0)||decide (bestP b.1<bestP b.2.1))):=by
 have key:∀ _:(∀ o∈flat b.1,∀ x∈flat b.2.1,opr o<opr x),rightB b=true:=fun hx=>rightB_iff.2 ⟨n1,n2,h1,h2,hc,fun o ho x hx e=>fnd_none.1 (ha o ho).1 x hx e.symm,fun o ho=>(ha o ho).2,hs,hx⟩
 cases e1:(flat b.1).head? with
 | none =>
  obtain ⟨p1,p2⟩:=best_none e1
  rw [key (by rw [p2];simp),p1];rfl
 | some x =>
  obtain ⟨p1,p2,p3⟩:=best_some h1 e1
  cases e2:(flat b.2.1).head? with
  | none =>
   obtain ⟨q1,q2⟩:=best_none e2
   rw [key (by rw [q2];simp),q1];simp
  | some y =>
   obtain ⟨q1,q2,q3⟩:=best_some h2 e2
   rw [p1,q1]
   by_cases hlt:opr x<opr y
   ·rw [key (fun o ho z hz=>by
     have a1:=head_best h1 e1 o ho
     have a2:=head_best h2 e2 z hz
     simp only [Le.ahead,if_true,decide_eq_true_eq] at a1 a2
     have:¬ (2:Int)=1:=by decide
     rw [if_neg this] at a2
     simp only [decide_eq_true_eq] at a2
     omega)]
    simp [hlt]
   ·rw [rightB_no (fun h=>hlt (h.cross x p3 y q3))]
    have e1:¬ opr x=0:=by omega
    have e2:¬ opr y=0:=by omega
    simp [e1,e2,hlt]
theorem rRightB_any (B:Bs) (b:Bk) (v:Value) (w:World) (h:BL B b v w) (hB:B.le w.heap.size) (h1:b.1.length≤1000000) (h2:(flat b.1).length≤1000000) (h3:b.2.1.length≤1000000) (h4:(flat b.2.1).length≤1000000) :
  Calls Tryz.prog 109 #[v] w fun e w'=>e=.returned (.bool (rightB b))∧Below w.heap.size w w':=by
 obtain ⟨x,y,rfl,hx,hy⟩:=h
 obtain ⟨n,hn⟩:∃ n,b.2.2=n:=⟨_,rfl⟩
 rw [hn]
 obtain ⟨V,hV⟩:∃ V,V=w.alloc (.cells #[x,y,.int .i64 n] 57):=⟨_,rfl⟩
 have hbV:Below w.heap.size w V:=hV ▸ below1 w _
 have hzV:w.heap.size<V.heap.size:=by rw [hV];simp
 obtain ⟨a1,c1,rfl⟩:=hx.len
 obtain ⟨a2,c2,rfl⟩:=hy.len
 obtain ⟨R,hR⟩:∃ R,rightB b=R:=⟨_,rfl⟩
 rw [hR]
 have HX:=lH (show ∀ u,Below V.heap.size V u→LL B b.1 (.slice a1 b.1.length c1) u∧LL B b.2.1 (.slice a2 b.2.1.length c2) u∧B.le u.heap.size from fun u hu=>⟨Is.stays eL 106 hx (nx hbV hu),Is.stays eL 106 hy (nx hbV hu),hB.mono (nx hbV hu).size⟩)
 have hC:∀ u,Below V.heap.size V u→u.cell? ⟨w.heap.size,0,none⟩=some (.slice a1 b.1.length c1)∧u.cell? ⟨w.heap.size,1,none⟩=some (.slice a2 b.2.1.length c2)∧u.cell? ⟨w.heap.size,2,none⟩=some (.int .i64 n)∧w.heap.size<u.heap.size∧row u w.heap.size=#[.slice a1 b.1.length c1,.slice a2 b.2.1.length c2,.int .i64 n]:=fun u hu=>by
  refine ⟨?_,?_,?_,Nat.lt_of_lt_of_le hzV hu.size,?_⟩
  ·rw [hu.cell (p:=⟨w.heap.size,0,none⟩) hzV,hV];simp [go_sem]
  ·rw [hu.cell (p:=⟨w.heap.size,1,none⟩) hzV,hV];simp [go_sem]
  ·rw [hu.cell (p:=⟨w.heap.size,2,none⟩) hzV,hV];simp [go_sem]
  ·unfold Rw.row
   rw [hu.block _ hzV,hV,heap_alloc_new]
 have HC:=lH hC
 obtain ⟨r1,hr1⟩:∃ r,rightL 1 b.1=r:=⟨_,rfl⟩
 obtain ⟨r2,hr2⟩:∃ r,rightL 2 b.2.1=r:=⟨_,rfl⟩
 obtain ⟨k1,hk1⟩:∃ k,(flat b.1).length=k:=⟨_,rfl⟩
 obtain ⟨k2,hk2⟩:∃ k,(flat b.2.1).length=k:=⟨_,rfl⟩
 have hR1:∀ u,Below V.heap.size V u→Calls Tryz.prog 140 #[.slice a1 b.1.length c1,.int .i64 1] u fun e w'=>e=.returned (.bool r1)∧Below u.heap.size u w':=fun u hu=>by
  rw [← hr1];exact rRight_any B b.1 _ 1 u (HX.out u hu).1 (HX.out u hu).2.2 h1 h2
 have hR2:∀ u,Below V.heap.size V u→Calls Tryz.prog 140 #[.slice a2 b.2.1.length c2,.int .i64 2] u fun e w'=>e=.returned (.bool r2)∧Below u.heap.size u w':=fun u hu=>by
  rw [← hr2];exact rRight_any B b.2.1 _ 2 u (HX.out u hu).2.1 (HX.out u hu).2.2 h3 h4
 have hK1:∀ u,Below V.heap.size V u→Calls Tryz.prog 141 #[.slice a1 b.1.length c1] u fun e w'=>e=.returned (.int .i64 (k1:Nat))∧Below u.heap.size u w':=fun u hu=>by
  rw [← hk1];exact rCount_any B b.1 _ u (HX.out u hu).1 h1 h2
 have hK2:∀ u,Below V.heap.size V u→Calls Tryz.prog 141 #[.slice a2 b.2.1.length c2] u fun e w'=>e=.returned (.int .i64 (k2:Nat))∧Below u.heap.size u w':=fun u hu=>by
  rw [← hk2];exact rCount_any B b.2.1 _ u (HX.out u hu).2.1 h3 h4
 have HR1:=lH hR1
 have HR2:=lH hR2
 have HK1:=lH hK1
 have HK2:=lH hK2
 have HV:=lH hV
 have HRR:=lH hR
 have HN:=lH hn
 have Hr1:=lH hr1
 have Hr2:=lH hr2
 have Hk1:=lH hk1
 have Hk2:=lH hk2
 have hk1':k1≤1000000:=by omega
 have hk2':k2≤1000000:=by omega
 clear hx hy hV hn hr1 hr2 hk1 hk2 hR1 hR2 hK1 hK2 hR hC
 obtain ⟨m0,m1,m2,mz,mr⟩:=HC.out V (Below.refl _ _)
 by_cases dA:n<1
 ·have HZ:Hid (R=false):=lH (by rw [← HRR.out];exact rightB_no fun h=>by have:=h.n1;rw [HN.out] at this;omega)
  go_enter Tryz.func109,Tryz.ntmps109
  go_wp2
  rw [← HV.out]
  refine Rf.rg [0,1,2,3,4,5,6,7,8,9,10,11,12,13,14,15,16,17,18,19,20,21,22,23,24,25,26,27,28,29] ?_
  repeat (first | (refine Rf.Steps.sk ?_;simp only [Act.put,sA,sB,sC]) | (refine Rf.Steps.pu (v:=?_) ?_ ?_;rotate_left;(intro w_ hS_;have hk_:=HC.out w_ hS_;go_simp<;>with_reducible rfl);simp only [Act.put,sA,sB,sC]) | (refine Rf.Steps.ca (v:=?_) (f:=?_) (args:=?_) ?_ ?_ ?_;rotate_left 3;(intro w_ hS_;have hk_:=HC.out w_ hS_;go_simp<;>first | with_reducible rfl | (constructor<;>with_reducible rfl));(intro w_ hS_;have hk_:=HC.out w_ hS_;first | (go_at_call 140;(first | with_reducible refine (HR1.out w_ hS_).mono ?_ | with_reducible refine (HR2.out w_ hS_).mono ?_);first | (rintro e w_ ⟨rfl,rfl⟩;refine ⟨?_,Below.refl _ _⟩;with_reducible rfl) | (rintro e w_ ⟨rfl,hb_⟩;refine ⟨?_,hb_⟩;with_reducible rfl)) | (go_at_call 141;(first | with_reducible refine (HK1.out w_ hS_).mono ?_ | with_reducible refine (HK2.out w_ hS_).mono ?_);first | (rintro e w_ ⟨rfl,rfl⟩;refine ⟨?_,Below.refl _ _⟩;with_reducible rfl) | (rintro e w_ ⟨rfl,hb_⟩;refine ⟨?_,hb_⟩;with_reducible rfl)));simp only [Act.put,sA,sB,sC]))
  refine Rf.Steps.nil (by kernel_rfl) ?_
  intro w4 hb6
  go_wp2
  go_ret
  exact ⟨ret_bool HZ.out.symm,nx hbV hb6⟩
 have fA:decide (n<1)=false:=by simpa using dA
 by_cases dB:1073741824<n
 ·have HZ:Hid (R=false):=lH (by rw [← HRR.out];exact rightB_no fun h=>by have:=h.n2;rw [HN.out] at this;omega)
  go_enter Tryz.func109,Tryz.ntmps109
  go_wp2
  rw [← HV.out]
  refine Rf.rg [0,1,2,3,4,5,6,7,8,9,10,11,12,13,14,15,16,17,18,19,20,21,22,23,24,25,26,27,28,29] ?_
  repeat (first | (refine Rf.Steps.sk ?_;simp only [Act.put,sA,sB,sC]) | (refine Rf.Steps.pu (v:=?_) ?_ ?_;rotate_left;(intro w_ hS_;have hk_:=HC.out w_ hS_;go_simp<;>with_reducible rfl);simp only [Act.put,sA,sB,sC]) | (refine Rf.Steps.ca (v:=?_) (f:=?_) (args:=?_) ?_ ?_ ?_;rotate_left 3;(intro w_ hS_;have hk_:=HC.out w_ hS_;go_simp<;>first | with_reducible rfl | (constructor<;>with_reducible rfl));(intro w_ hS_;have hk_:=HC.out w_ hS_;first | (go_at_call 140;(first | with_reducible refine (HR1.out w_ hS_).mono ?_ | with_reducible refine (HR2.out w_ hS_).mono ?_);first | (rintro e w_ ⟨rfl,rfl⟩;refine ⟨?_,Below.refl _ _⟩;with_reducible rfl) | (rintro e w_ ⟨rfl,hb_⟩;refine ⟨?_,hb_⟩;with_reducible rfl)) | (go_at_call 141;(first | with_reducible refine (HK1.out w_ hS_).mono ?_ | with_reducible refine (HK2.out w_ hS_).mono ?_);first | (rintro e w_ ⟨rfl,rfl⟩;refine ⟨?_,Below.refl _ _⟩;with_reducible rfl) | (rintro e w_ ⟨rfl,hb_⟩;refine ⟨?_,hb_⟩;with_reducible rfl)));simp only [Act.put,sA,sB,sC]))
  refine Rf.Steps.nil (by kernel_rfl) ?_
  intro w4 hb6
  go_wp2
  go_ret
  exact ⟨ret_bool HZ.out.symm,nx hbV hb6⟩
 have fB:decide (1073741824<n)=false:=by simpa using dB
 cases r1
 ·have HZ:Hid (R=false):=lH (by rw [← HRR.out];exact rightB_no fun h=>by have:=Hr1.out;rw [rightL_iff.2 h.buys] at this;cases this)
  go_enter Tryz.func109,Tryz.ntmps109
  go_wp2
  rw [← HV.out]
  refine Rf.rg [0,1,2,3,4,5,6,7,8,9,10,11,12,13,14,15,16,17,18,19,20,21,22,23,24,25,26,27,28,29] ?_
  repeat (first | (refine Rf.Steps.sk ?_;simp only [Act.put,sA,sB,sC]) | (refine Rf.Steps.pu (v:=?_) ?_ ?_;rotate_left;(intro w_ hS_;have hk_:=HC.out w_ hS_;go_simp<;>with_reducible rfl);simp only [Act.put,sA,sB,sC]) | (refine Rf.Steps.ca (v:=?_) (f:=?_) (args:=?_) ?_ ?_ ?_;rotate_left 3;(intro w_ hS_;have hk_:=HC.out w_ hS_;go_simp<;>first | with_reducible rfl | (constructor<;>with_reducible rfl));(intro w_ hS_;have hk_:=HC.out w_ hS_;first | (go_at_call 140;(first | with_reducible refine (HR1.out w_ hS_).mono ?_ | with_reducible refine (HR2.out w_ hS_).mono ?_);first | (rintro e w_ ⟨rfl,rfl⟩;refine ⟨?_,Below.refl _ _⟩;with_reducible rfl) | (rintro e w_ ⟨rfl,hb_⟩;refine ⟨?_,hb_⟩;with_reducible rfl)) | (go_at_call 141;(first | with_reducible refine (HK1.out w_ hS_).mono ?_ | with_reducible refine (HK2.out w_ hS_).mono ?_);first | (rintro e w_ ⟨rfl,rfl⟩;refine ⟨?_,Below.refl _ _⟩;with_reducible rfl) | (rintro e w_ ⟨rfl,hb_⟩;refine ⟨?_,hb_⟩;with_reducible rfl)));simp only [Act.put,sA,sB,sC]))
  refine Rf.Steps.nil (by kernel_rfl) ?_
  intro w4 hb6
  go_wp2
  go_ret
  exact ⟨ret_bool HZ.out.symm,nx hbV hb6⟩
 cases r2
 ·have HZ:Hid (R=false):=lH (by rw [← HRR.out];exact rightB_no fun h=>by have:=Hr2.out;rw [rightL_iff.2 h.sells] at this;cases this)
  go_enter Tryz.func109,Tryz.ntmps109
  go_wp2
  rw [← HV.out]
  refine Rf.rg [0,1,2,3,4,5,6,7,8,9,10,11,12,13,14,15,16,17,18,19,20,21,22,23,24,25,26,27,28,29] ?_
  repeat (first | (refine Rf.Steps.sk ?_;simp only [Act.put,sA,sB,sC]) | (refine Rf.Steps.pu (v:=?_) ?_ ?_;rotate_left;(intro w_ hS_;have hk_:=HC.out w_ hS_;go_simp<;>with_reducible rfl);simp only [Act.put,sA,sB,sC]) | (refine Rf.Steps.ca (v:=?_) (f:=?_) (args:=?_) ?_ ?_ ?_;rotate_left 3;(intro w_ hS_;have hk_:=HC.out w_ hS_;go_simp<;>first | with_reducible rfl | (constructor<;>with_reducible rfl));(intro w_ hS_;have hk_:=HC.out w_ hS_;first | (go_at_call 140;(first | with_reducible refine (HR1.out w_ hS_).mono ?_ | with_reducible refine (HR2.out w_ hS_).mono ?_);first | (rintro e w_ ⟨rfl,rfl⟩;refine ⟨?_,Below.refl _ _⟩;with_reducible rfl) | (rintro e w_ ⟨rfl,hb_⟩;refine ⟨?_,hb_⟩;with_reducible rfl)) | (go_at_call 141;(first | with_reducible refine (HK1.out w_ hS_).mono ?_ | with_reducible refine (HK2.out w_ hS_).mono ?_);first | (rintro e w_ ⟨rfl,rfl⟩;refine ⟨?_,Below.refl _ _⟩;with_reducible rfl) | (rintro e w_ ⟨rfl,hb_⟩;refine ⟨?_,hb_⟩;with_reducible rfl)));simp only [Act.put,sA,sB,sC]))
  refine Rf.Steps.nil (by kernel_rfl) ?_
  intro w4 hb6
  go_wp2
  go_ret
  exact ⟨ret_bool HZ.out.symm,nx hbV hb6⟩
 have hwr:IntKind.i64.wrap ((k1:Int)+k2)=k1+k2:=IntWalk.i64_in _ (by omega)
 by_cases dE:(40:Int)<k1+k2
 ·have fE:decide ((40:Int)<IntKind.i64.wrap ((k1:Int)+k2))=true:=by rw [hwr];simpa using dE
  have HZ:Hid (R=false):=lH (by rw [← HRR.out];exact rightB_no fun h=>by have:=h.cnt;unfold cntB at this;rw [Hk1.out,Hk2.out] at this;omega)
  go_enter Tryz.func109,Tryz.ntmps109
  go_wp2
  rw [← HV.out]
  refine Rf.rg [0,1,2,3,4,5,6,7,8,9,10,11,12,13,14,15,16,17,18,19,20,21,22,23,24,25,26,27,28,29] ?_
  repeat (first | (refine Rf.Steps.sk ?_;simp only [Act.put,sA,sB,sC]) | (refine Rf.Steps.pu (v:=?_) ?_ ?_;rotate_left;(intro w_ hS_;have hk_:=HC.out w_ hS_;go_simp<;>with_reducible rfl);simp only [Act.put,sA,sB,sC]) | (refine Rf.Steps.ca (v:=?_) (f:=?_) (args:=?_) ?_ ?_ ?_;rotate_left 3;(intro w_ hS_;have hk_:=HC.out w_ hS_;go_simp<;>first | with_reducible rfl | (constructor<;>with_reducible rfl));(intro w_ hS_;have hk_:=HC.out w_ hS_;first | (go_at_call 140;(first | with_reducible refine (HR1.out w_ hS_).mono ?_ | with_reducible refine (HR2.out w_ hS_).mono ?_);first | (rintro e w_ ⟨rfl,rfl⟩;refine ⟨?_,Below.refl _ _⟩;with_reducible rfl) | (rintro e w_ ⟨rfl,hb_⟩;refine ⟨?_,hb_⟩;with_reducible rfl)) | (go_at_call 141;(first | with_reducible refine (HK1.out w_ hS_).mono ?_ | with_reducible refine (HK2.out w_ hS_).mono ?_);first | (rintro e w_ ⟨rfl,rfl⟩;refine ⟨?_,Below.refl _ _⟩;with_reducible rfl) | (rintro e w_ ⟨rfl,hb_⟩;refine ⟨?_,hb_⟩;with_reducible rfl)));simp only [Act.put,sA,sB,sC]))
  refine Rf.Steps.nil (by kernel_rfl) ?_
  intro w4 hb6
  go_wp2
  go_ret
  exact ⟨ret_bool HZ.out.symm,nx hbV hb6⟩
 have fE:decide ((40:Int)<IntKind.i64.wrap ((k1:Int)+k2))=false:=by rw [hwr];simpa using dE
 go_enter Tryz.func109,Tryz.ntmps109
 go_wp2
 rw [← HV.out]
 refine Rf.rg [0,1,2,3,4,5,6,7,8,9,10,11,12,13,14,15,16,17,18,19,20,21,22,23,24,25,26,27,28,29] ?_
 repeat (first | (refine Rf.Steps.sk ?_;simp only [Act.put,sA,sB,sC]) | (refine Rf.Steps.pu (v:=?_) ?_ ?_;rotate_left;(intro w_ hS_;have hk_:=HC.out w_ hS_;go_simp<;>with_reducible rfl);simp only [Act.put,sA,sB,sC]) | (refine Rf.Steps.ca (v:=?_) (f:=?_) (args:=?_) ?_ ?_ ?_;rotate_left 3;(intro w_ hS_;have hk_:=HC.out w_ hS_;go_simp<;>first | with_reducible rfl | (constructor<;>with_reducible rfl));(intro w_ hS_;have hk_:=HC.out w_ hS_;first | (go_at_call 140;(first | with_reducible refine (HR1.out w_ hS_).mono ?_ | with_reducible refine (HR2.out w_ hS_).mono ?_);first | (rintro e w_ ⟨rfl,rfl⟩;refine ⟨?_,Below.refl _ _⟩;with_reducible rfl) | (rintro e w_ ⟨rfl,hb_⟩;refine ⟨?_,hb_⟩;with_reducible rfl)) | (go_at_call 141;(first | with_reducible refine (HK1.out w_ hS_).mono ?_ | with_reducible refine (HK2.out w_ hS_).mono ?_);first | (rintro e w_ ⟨rfl,rfl⟩;refine ⟨?_,Below.refl _ _⟩;with_reducible rfl) | (rintro e w_ ⟨rfl,hb_⟩;refine ⟨?_,hb_⟩;with_reducible rfl)));simp only [Act.put,sA,sB,sC]))
 refine Rf.Steps.nil (by kernel_rfl) ?_
 intro w4 hb6
 obtain ⟨q0,q1,q2,qz,qr⟩:=HC.out w4 hb6
 clear m0 m1 m2 mz mr
 go_wp2_with fail
 refine (rOrders_any B b.1 _ w4 (HX.out w4 hb6).1 (HX.out w4 hb6).2.2 h1 h2).mono ?_
 rintro e w5 ⟨v1,rfl,hb5,hol⟩
 clear q0 q1 q2 qz qr
 obtain ⟨a3,c3,rfl,hel⟩:=id hol
 rw [Hk1.out]
 have HE:=lH hel
 have hb65:Below V.heap.size V w5:=nx hb6 hb5
 clear hol hel
 go_wp2
 go_loopw [45] (fun i wr=>∃ j:Nat,j≤k1∧i=.int .i64 j∧Below w5.heap.size w5 wr∧∀ o∈(flat b.1).take j,fnd (flat b.2.1) o.1=none∧o.1<n) (fun i _=>k1 - (intOf i).toNat)
 case atStart=>exact ⟨0,Nat.zero_le _,rfl,Below.refl _ _,by simp⟩
 case round =>
  obtain ⟨j,hj,rfl,hb,hall⟩:=hrel
  have HAll:=lH hall
  clear hall
  by_cases hjm:j<k1
  ·have hjm2:(j:Int)<k1:=by omega
   have hjo:j<(flat b.1).length:=by rw [Hk1.out];exact hjm
   rcases HE.out with ⟨e,_⟩ | ⟨b2,off2,rfl,hat2⟩
   ·rw [e] at hjo;cases hjo
   have hat3:=Lies.keep eO 74 hat2 (Keeps.of_below hb)
   have hc5:=at5 hat3 j hjo
   have hbb:=hat3.1
   have hmem:=List.getElem_mem hjo
   have htk:=Da.take_snoc hjo
   obtain ⟨⟨o1,o2,o3,o4,o5⟩,ho⟩:∃ o,(flat b.1)[j]=o:=⟨_,rfl⟩
   rw [ho] at hc5 hmem htk
   simp only at hc5
   obtain ⟨s0,s1,s2,s3,s4⟩:=hc5
   have HMem:=lH hmem
   have HTk:=lH htk
   have hbr:=nx hb65 hb
   obtain ⟨q0,q1,q2,qz,qr⟩:=HC.out wr hbr
   obtain ⟨U,hU⟩:∃ U,U=wr.alloc (.cells #[.int .i64 o1,.int .i64 o2,.int .i64 o3,.int .i64 o4,.int .i64 o5] 74):=⟨_,rfl⟩
   have hbU:Below wr.heap.size wr U:=hU ▸ below1 wr _
   have hzU:wr.heap.size<U.heap.size:=by rw [hU];simp
   have hcU:U.cell? ⟨wr.heap.size,0,none⟩=some (.int .i64 o1):=by rw [hU];simp [go_sem]
   obtain ⟨r,hr⟩:∃ r,fnd (flat b.2.1) o1=r:=⟨_,rfl⟩
   have HQ:=lH hr
   have HU:=lH hU
   have hbrU:=nx hbr hbU
   have hcs1:=cO_size r
   have h1c1:oneAll (.agg (cO r))=true:=by cases r<;>exact one5 _ _ _ _ _
   clear hmem htk ho hat2 hat3 hU hr
   go_wp2_with fail
   rw [← HU.out]
   refine (rFind_any B b.2.1 _ o1 U (HX.out U hbrU).2.1 h3 h4).mono ?_
   rintro e w6 ⟨rfl,hb7⟩
   rw [HQ.out,fV_is]
   clear q0 q1 q2 qz qr s0 s1 s2 s3 s4
   obtain ⟨q0,q1,q2,qz,qr⟩:=HC.out w6 (nx hbrU hb7)
   have hc6:w6.cell? ⟨wr.heap.size,0,none⟩=some (.int .i64 o1):=(hb7.cell (p:=⟨wr.heap.size,0,none⟩) hzU).trans hcU
   have hz6:wr.heap.size<w6.heap.size:=Nat.lt_of_lt_of_le hzU hb7.size
   clear hcU
   have hbT:=nx hbV (nx hbrU hb7)
   cases hd:r.isSome
   ·by_cases hge:n≤o1
    ·have HZ:Hid (R=false):=lH (by rw [← HRR.out];exact rightB_no fun h=>by have:=h.ltB _ HMem.out;rw [HN.out] at this;omega)
     go_wp2
     go_ret
     exact ⟨ret_bool HZ.out.symm,nx hbT (below1 _ _)⟩
    ·have hlt:o1<n:=by omega
     have fge:decide (n≤o1)=false:=by simpa using hge
     have HRel:Hid (∀ o∈(flat b.1).take (j+1),fnd (flat b.2.1) o.1=none∧o.1<n):=lH (by
      rw [HTk.out]
      intro o ho
      rcases List.mem_append.1 ho with ho | ho
      ·exact HAll.out o ho
      ·obtain rfl:=List.mem_singleton.1 ho
       exact ⟨by rw [show fnd (flat b.2.1) o1=r from HQ.out];exact Option.not_isSome_iff_eq_none.1 (by rw [hd];decide),hlt⟩)
     go_wp2
     go_roundw
     case rel=>exact ⟨j+1,by omega,by go_num,nx hb (nx hbU (nx hb7 (below1 _ _))),HRel.out⟩
     case measure=>simp [intOf];omega
   ·have HZ:Hid (R=false):=lH (by
     rw [← HRR.out]
     exact rightB_no fun h=>by
      obtain ⟨x,hx⟩:=Option.isSome_iff_exists.1 hd
      obtain ⟨f1,f2⟩:=fnd_some (HQ.out.trans hx)
      exact h.apart _ HMem.out x f1 f2.symm)
    go_wp2
    go_ret
    exact ⟨ret_bool HZ.out.symm,nx hbT (below1 _ _)⟩
  ·obtain rfl:j=k1:=by omega
   have HA1:Hid (∀ o∈flat b.1,fnd (flat b.2.1) o.1=none∧o.1<n):=lH (by
    have:=HAll.out
    rw [List.take_of_length_le (by rw [Hk1.out];exact Nat.le_refl _)] at this
    exact this)
   have hbr:=nx hb65 hb
   obtain ⟨q0,q1,q2,qz,qr⟩:=HC.out wr hbr
   go_wp2_with fail
   refine (rOrders_any B b.2.1 _ wr (HX.out wr hbr).2.1 (HX.out wr hbr).2.2 h3 h4).mono ?_
   rintro e w7 ⟨v2,rfl,hb9,hol2⟩
   clear q0 q1 q2 qz qr
   obtain ⟨a4,c4,rfl,hel2⟩:=id hol2
   rw [Hk2.out]
   have HE2:=lH hel2
   have hbs:=nx hbr hb9
   clear hol2 hel2
   go_wp2
   go_loopw [70] (fun i wr=>∃ t:Nat,t≤k2∧i=.int .i64 t∧Below w7.heap.size w7 wr∧∀ o∈(flat b.2.1).take t,o.1<n) (fun i _=>k2 - (intOf i).toNat)
   case atStart=>exact ⟨0,Nat.zero_le _,rfl,Below.refl _ _,by simp⟩
   case round =>
    obtain ⟨wt,rfl⟩:∃ wt:World,wt=wr:=⟨_,rfl⟩
    obtain ⟨t,ht,rfl,hbt,hall2⟩:=hrel
    have HAll2:=lH hall2
    have hbst:=nx hbs hbt
    obtain ⟨q0,q1,q2,qz,qr⟩:=HC.out wt hbst
    clear hall2
    by_cases htm:t<k2
    ·have htm2:(t:Int)<k2:=by omega
     have hto:t<(flat b.2.1).length:=by rw [Hk2.out];exact htm
     rcases HE2.out with ⟨e,_⟩ | ⟨b2,off2,rfl,hat2⟩
     ·rw [e] at hto;cases hto
     have hat3:=Lies.keep eO 74 hat2 (Keeps.of_below hbt)
     have hc5:=at5 hat3 t hto
     have hbb:=hat3.1
     have hmem:=List.getElem_mem hto
     have htk:=Da.take_snoc hto
     obtain ⟨⟨o1,o2,o3,o4,o5⟩,ho⟩:∃ o,(flat b.2.1)[t]=o:=⟨_,rfl⟩
     rw [ho] at hc5 hmem htk
     simp only at hc5
     obtain ⟨s0,s1,s2,s3,s4⟩:=hc5
     have HMem:=lH hmem
     have HTk:=lH htk
     clear hmem htk ho hat2 hat3
     by_cases hge:n≤o1
     ·have HZ:Hid (R=false):=lH (by rw [← HRR.out];exact rightB_no fun h=>by have:=h.ltS _ HMem.out;rw [HN.out] at this;omega)
      go_wp2
      go_ret
      exact ⟨ret_bool HZ.out.symm,nx hbV (nx hbst (below1 _ _))⟩
     ·have hlt:o1<n:=by omega
      have fge:decide (n≤o1)=false:=by simpa using hge
      have HRel:Hid (∀ o∈(flat b.2.1).take (t+1),o.1<n):=lH (by
       rw [HTk.out]
       intro o ho
       rcases List.mem_append.1 ho with ho | ho
       ·exact HAll2.out o ho
       ·obtain rfl:=List.mem_singleton.1 ho
        exact hlt)
      go_wp2
      go_roundw
      case rel=>exact ⟨t+1,by omega,by go_num,nx hbt (below1 _ _),HRel.out⟩
      case measure=>simp [intOf];omega
    ·obtain rfl:t=k2:=by omega
     have hmk:rightB b=(decide (bestP b.1=0)||(decide (bestP b.2.1=0)||decide (bestP b.1<bestP b.2.1))) :=
      rightB_make (by rw [HN.out];omega) (by rw [HN.out];omega) (rightL_iff.1 Hr1.out) (rightL_iff.1 Hr2.out) (by unfold cntB;rw [Hk1.out,Hk2.out];omega) (by rw [HN.out];exact HA1.out) (by
       have:=HAll2.out
       rw [List.take_of_length_le (by rw [Hk2.out];exact Nat.le_refl _)] at this
       rw [HN.out];exact this)
     rw [HRR.out] at hmk
     obtain ⟨x1,hx1⟩:∃ x,bestP b.1=x:=⟨_,rfl⟩
     obtain ⟨x2,hx2⟩:∃ x,bestP b.2.1=x:=⟨_,rfl⟩
     have HX1:=lH hx1
     have HX2:=lH hx2
     rw [hx1,hx2] at hmk
     have HMk:=lH hmk
     clear hx1 hx2 hmk
     go_wp2_with fail
     refine (rTop_any B b _ wt ⟨_,_,by rw [HN.out],(HX.out wt hbst).1,(HX.out wt hbst).2.1⟩ h1 h2 h3 h4).mono ?_
     rintro e w9 ⟨rfl,hb11⟩
     rw [HX1.out,HX2.out]
     have hbE:=nx hbV (nx hbst hb11)
     by_cases d1:x1=0
     ·have e1:(x1==0)=true:=by simpa using d1
      have HZ:Hid (R=true):=lH (by rw [HMk.out];simp [d1])
      clear d1
      go_wp2
      go_ret
      exact ⟨ret_bool HZ.out.symm,hbE⟩
     ·have e1:(x1==0)=false:=by simpa using d1
      by_cases d2:x2=0
      ·have e2:(x2==0)=true:=by simpa using d2
       have HZ:Hid (R=true):=lH (by rw [HMk.out];simp [d2])
       clear d1 d2
       go_wp2
       go_ret
       exact ⟨ret_bool HZ.out.symm,hbE⟩
      ·have e2:(x2==0)=false:=by simpa using d2
       have HZ:Hid (R=decide (x1<x2)):=lH (by rw [HMk.out];simp [d1,d2])
       clear d1 d2
       go_wp2
       go_ret
       exact ⟨ret_bool HZ.out.symm,hbE⟩
end Go.Proofs.YtjhocpcpkemcaaaGreat.Bk
