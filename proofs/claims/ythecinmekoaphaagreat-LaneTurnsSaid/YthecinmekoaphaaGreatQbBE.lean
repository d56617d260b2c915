/- Package level as it landed: slices.Insert of a level. -/
import Derived.Test.YthecinmekoaphaaGreatQbZZ
import Derived.Test.YthecinmekoaphaaGreatQbBD
set_option linter.unusedVariables false
set_option maxRecDepth 16000
set_option maxHeartbeats 32000000
namespace Go.Proofs.YthecinmekoaphaaGreat.Le
open Go.RowKit
open Rw
open Da
open Ro
theorem zero2 (w : World) : (zeroValue 98).run Tryz.prog w=.ok (.agg #[.int .i64 0,.slice none 0 0]) w:=by kernel_rfl
def InsF (n i : Nat) (hs : List Hw) (y : Hw) (w : World) (e : Ending) (w' : World) : Prop:=∃ g2 c2,e=.returned (.slice (some ⟨g2,0,none⟩) (n+1) c2)∧RowF g2 c2 (hs.take i++[y]++hs.drop i) w'∧w.heap.size≤g2∧Below w.heap.size w w'∧Hid (c2≤maxLen)
theorem insert_any (g n i b1 : Nat) (hs : List Hw) (y : Hw) (w : World) (hrow : RowF g n hs w) (hl : n=hs.length) (hi : i≤n) (hm : n≤1000000) (hv : RowF b1 1 [y] w) :
  Calls Tryz.prog 123 #[.slice (some ⟨g,0,none⟩) n n,.int .i64 i,.slice (some ⟨b1,0,none⟩) 1 1] w (InsF n i hs y w):=by
 have HR:=lH hrow
 have HV:=lH hv
 have HL:=lH hl
 by_cases hin : i=n
 ·subst hin
  obtain ⟨c',w',hrun,hr2,hb2,hc2⟩:=Row.grow (ys:=[y]) elemF 23 zero2 (x0:=((0,none,0,0) : Hw)) rfl hrow (by rw [← hl];simp) (by rw [← hl];simp;omega) (by decide) ⟨b1,0,none⟩ 1 hv.cells0
  rw [← hl] at hrun
  simp only [List.length_singleton] at hrun
  have HR2:=lH hr2
  have hd : ((1 : Int)==0)=false:=by decide
  have HC2:=lH hc2
  clear hrow hv hl hr2 hc2
  go_enter Tryz.func123,Tryz.ntmps123
  go_wp2
  go_ret
  exact ⟨_,_,rfl,by have:=HR2.out;rw [HL.out,List.take_length,List.drop_length,List.append_nil];exact this,Nat.le_refl _,hb2,HC2⟩
 ·have hlt : i<n:=by omega
  obtain ⟨c2,w2,hrun,hr2,hb2,hc2⟩:=Row.growz (u:=3) (ik:=.i64) elemF Tryz.underlying3 23 zero2 (x0:=((0,none,0,0) : Hw)) rfl hrow (n:=i) (m:=n+1 - i) (by omega) (by omega) (by omega) (by decide)
  have e1 : i+(n+1 - i)=n+1:=by omega
  have e2 : ((n+1 - i : Nat) : Int)=(n : Int)+1 - i:=by omega
  rw [e1,e2] at hrun
  have hg2 : w.heap.size<w2.heap.size:=hr2.lt
  have hle2 : n+1≤c2:=by have:=hr2.le;rw [List.length_append,List.length_take,List.length_replicate] at this;omega
  have hlen2 : (hs.take i++List.replicate (n+1 - i) ((0,none,0,0) : Hw)).length=n+1:=by rw [List.length_append,List.length_take,List.length_replicate];omega
  obtain ⟨w3,hrun3,hr3,hg3⟩:=Row.copy (u:=23) elemF 3 hr2 (ys:=[y]) (o:=i) (dl:=n+1 - i) (dc:=c2 - i) (by omega) (by simp;omega) (by simp;omega) ⟨b1,0,none⟩ 1 (hv.stays hb2).cells0
  simp only [List.length_singleton,show fF.k=2 from rfl] at hrun3
  have hb3 : Below w.heap.size w w3:=hb2.grown hg3 hb2.size (fun k hk=>by injection hk with e;omega)
  have hgz:=hrow.lt
  have HR3:=lH hr3
  have HRo:=lH ((hrow.stays hb2).apart hg3 (by omega))
  have hi1 : (i : Int)<n:=by omega
  have hi2 : (i : Int)≤n:=by omega
  have hi3 : (i : Int)≤n+1:=by omega
  have hi4 : (i : Int)<c2:=by omega
  have hd1 : ((1 : Int)==0)=false:=by decide
  have hd2 : ((i : Int)==n)=false:=by simp;omega
  have hd3 : decide ((n : Int)<n+1)=true:=decide_eq_true (by omega)
  have hd4 : decide (n<n+1)=true:=decide_eq_true (by omega)
  have HC2:=lH hc2
  have HC3 : Hid (∀ u,Below w3.heap.size w3 u→∃ w',copyRun Tryz.prog 23 23 3 (.slice (some ⟨w.heap.size,(i+1)*2,none⟩) (n - i) (c2 - (i+1))) (.slice (some ⟨g,i*2,none⟩) (n - i) (n - i)) u=.ok (.int .i64 ((n - i : Nat) : Int)) w'∧RowF w.heap.size c2 (hs.take i++[y]++hs.drop i) w'∧Below w.heap.size w w'):=lH fun u hu=>by
   have hlen3 : (((hs.take i++List.replicate (n+1 - i) ((0,none,0,0) : Hw)).take i++[y]++(hs.take i++List.replicate (n+1 - i) ((0,none,0,0) : Hw)).drop (i+[y].length))).length=n+1:=by
    simp only [List.length_append,List.length_take,List.length_drop,List.length_singleton,List.length_replicate];omega
   have hdl : (hs.drop i).length=n - i:=by rw [List.length_drop];omega
   obtain ⟨w',h1,h2,h3⟩:=Row.copy (u:=23) elemF 3 (HR3.out.stays hu) (ys:=hs.drop i) (o:=i+1) (dl:=n - i) (dc:=c2 - (i+1)) (by omega) (by omega) (by omega) ⟨g,i*2,none⟩ (n - i) ((HRo.out.stays hu).cells i)
   rw [hdl] at h1
   have hbu:=hb3.trans (hu.mono hb3.size)
   refine ⟨w',h1,?_,hbu.grown h3 hbu.size (fun k hk=>by injection hk with e;omega)⟩
   have e1 : ((hs.take i++List.replicate (n+1 - i) ((0,none,0,0) : Hw)).take i++[y]++(hs.take i++List.replicate (n+1 - i) ((0,none,0,0) : Hw)).drop (i+[y].length)).take (i+1)=hs.take i++[y]:=by
    rw [List.take_append_of_le_length (by simp only [List.length_append,List.length_take,List.length_singleton,List.length_replicate];omega)]
    rw [List.take_of_length_le (by simp only [List.length_append,List.length_take,List.length_singleton,List.length_replicate];omega)]
    rw [List.take_append_of_le_length (by rw [List.length_take];omega),List.take_take,Nat.min_self]
   have e3 : ((hs.take i++List.replicate (n+1 - i) ((0,none,0,0) : Hw)).take i++[y]++(hs.take i++List.replicate (n+1 - i) ((0,none,0,0) : Hw)).drop (i+[y].length)).drop (i+1+(n - i))=[]:=List.drop_of_length_le (by rw [hlen3];omega)
   rw [e1,hdl,e3,List.append_nil] at h2
   exact h2
  have k1 : IntKind.i64.wrap ((i : Int)+1)=(i : Int)+1:=IntWalk.i64_in _ (by omega)
  have k2 : ((i : Int)+1).toNat=i+1:=by omega
  have k3 : (0 : Int)≤(i : Int)+1:=by omega
  have k4 : (i : Int)+1≤n+1:=by omega
  have k5 : ¬ c2=i+1:=by omega
  have k6 : ¬ (c2 : Int)=(i : Int)+1:=by omega
  have k8 : ¬ n=i:=by omega
  have k7 : ((n - i : Nat) : Int)=(n : Int) - i:=by omega
  clear hrow hv hr2 hr3 hl e1 e2 hc2
  go_enter Tryz.func123,Tryz.ntmps123
  go_wp2
  refine Rh.rg (fun _=>True) (fun u=>Below w3.heap.size w3 u) (fun _ _ _ _=>trivial) (fun _ _ h k=>nx h k) (trivial) ((Below.refl _ _).drew) [0,1,2,3,4,5,6,7,8] ?_
  repeat (first | (refine Rh.Steps.sk ?_;simp only [Act.put,sA,sB,sC]) | (refine Rh.Steps.pu (v:=?_) ?_ ?_;rotate_left;(intro w_ hS_;skip;go_simp<;>with_reducible rfl);simp only [Act.put,sA,sB,sC]))
  refine Rh.Steps.forced (i:=8) (by kernel_rfl) ?_
  refine Rh.One.new (fun v u=>RowF w.heap.size c2 (hs.take i++[y]++hs.drop i) u∧Below w.heap.size w u) (fun v _ _ h k=>⟨h.1.stays k,nx h.2 k⟩) (by rfl) (by rfl) ?_ ?_
  ·intro w_ hS_ hG_
   obtain ⟨w',h1,h2,h3⟩:=HC3.out w_ hG_
   rw [k7] at h1
   refine ⟨.int .i64 ((n : Int) - i),w',?_,trivial,h2,h3⟩
   go_simp
  intro v4 u5 hv4
  simp only [Act.put,sA,sB,sC]
  refine Rh.Steps.nil (by kernel_rfl) ?_
  intro w4 _ hG4
  have HG:=lH hG4
  clear hG4
  go_wp2
  go_ret
  exact ⟨_,_,rfl,HG.out.1,Nat.le_refl _,HG.out.2,HC2⟩
end Go.Proofs.YthecinmekoaphaaGreat.Le
