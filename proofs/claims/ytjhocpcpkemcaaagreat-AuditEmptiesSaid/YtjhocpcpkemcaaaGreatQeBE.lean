/- Package level as it landed: slices.Insert of a level. -/
import Derived.Test.YtjhocpcpkemcaaaGreatQeZZ
import Derived.Test.YtjhocpcpkemcaaaGreatQeBD
import Derived.Shelf.Sort.Plain
import Derived.Shelf.Slices.CompactI
import Derived.Shelf.Slices.In.SortNone
import Derived.Test.YtjhocpcpkemcaaaGreatProg
import Derived.Test.YtjhocpcpkemcaaaGreatQeBC
import Derived.Lib.RowBridge
import Derived.Laws.MakeOwn
import Derived.Deep.LoopGhost
import Derived.Sort.Walk0
import Derived.Test.YtjhocpcpkemcaaaGreatQeAR
set_option linter.unusedVariables false
set_option maxRecDepth 16000
set_option maxHeartbeats 32000000
namespace Go.Proofs.YtjhocpcpkemcaaaGreat.Le
open Go.RowKit
open Rw
open Da
open Ro
theorem zero2 (w:World):(zeroValue 106).run Tryz.prog w=.ok (.agg #[.int .i64 0,.slice none 0 0]) w:=by kernel_rfl
def InsF (n i:Nat) (hs:List Hw) (y:Hw) (w:World) (e:Ending) (w':World):Prop:=∃ g2 c2,e=.returned (.slice (some ⟨g2,0,none⟩) (n+1) c2)∧RowF g2 c2 (hs.take i++[y]++hs.drop i) w'∧w.heap.size≤g2∧Below w.heap.size w w'∧Hid (c2≤maxLen)
theorem insert_any (g n i b1:Nat) (hs:List Hw) (y:Hw) (w:World) (hrow:RowF g n hs w) (hl:n=hs.length) (hi:i≤n) (hm:n≤1000000) (hv:RowF b1 1 [y] w) :
  Calls Tryz.prog 211 #[.slice (some ⟨g,0,none⟩) n n,.int .i64 i,.slice (some ⟨b1,0,none⟩) 1 1] w (InsF n i hs y w):=by
 have HR:=lH hrow
 have HV:=lH hv
 have HL:=lH hl
 by_cases hin:i=n
 ·subst hin
  obtain ⟨c',w',hrun,hr2,hb2,hc2⟩:=Row.grow (ys:=[y]) elemF 55 zero2 (x0:=((0,none,0,0):Hw)) rfl hrow (by rw [← hl];simp) (by rw [← hl];simp;omega) (by decide) ⟨b1,0,none⟩ 1 hv.cells0
  rw [← hl] at hrun
  simp only [List.length_singleton] at hrun
  have HR2:=lH hr2
  have hd:((1:Int)==0)=false:=by decide
  have HC2:=lH hc2
  clear hrow hv hl hr2 hc2
  go_enter Tryz.func211,Tryz.ntmps211
  go_wp2
  go_ret
  exact ⟨_,_,rfl,by have:=HR2.out;rw [HL.out,List.take_length,List.drop_length,List.append_nil];exact this,Nat.le_refl _,hb2,HC2⟩
 ·have hlt:i<n:=by omega
  obtain ⟨c2,w2,hrun,hr2,hb2,hc2⟩:=Row.growz (u:=3) (ik:=.i64) elemF Tryz.underlying3 55 zero2 (x0:=((0,none,0,0):Hw)) rfl hrow (n:=i) (m:=n+1 - i) (by omega) (by omega) (by omega) (by decide)
  have e1:i+(n+1 - i)=n+1:=by omega
  have e2:((n+1 - i:Nat):Int)=(n:Int)+1 - i:=by omega
  rw [e1,e2] at hrun
  have hg2:w.heap.size<w2.heap.size:=hr2.lt
  have hle2:n+1≤c2:=by have:=hr2.le;rw [List.length_append,List.length_take,List.length_replicate] at this;omega
  have hlen2:(hs.take i++List.replicate (n+1 - i) ((0,none,0,0):Hw)).length=n+1:=by rw [List.length_append,List.length_take,List.length_replicate];omega
  obtain ⟨w3,hrun3,hr3,hg3⟩:=Row.copy (u:=55) elemF 3 hr2 (ys:=[y]) (o:=i) (dl:=n+1 - i) (dc:=c2 - i) (by omega) (by simp;omega) (by simp;omega) ⟨b1,0,none⟩ 1 (hv.stays hb2).cells0
  simp only [List.length_singleton,show fF.k=2 from rfl] at hrun3
  have hb3:Below w.heap.size w w3:=hb2.grown hg3 hb2.size (fun k hk=>by injection hk with e;omega)
  have hgz:=hrow.lt
  have HR3:=lH hr3
  have HRo:=lH ((hrow.stays hb2).apart hg3 (by omega))
  have hi1:(i:Int)<n:=by omega
  have hi2:(i:Int)≤n:=by omega
  have hi3:(i:Int)≤n+1:=by omega
  have hi4:(i:Int)<c2:=by omega
  have hd1:((1:Int)==0)=false:=by decide
  have hd2:((i:Int)==n)=false:=by simp;omega
  have hd3:decide ((n:Int)<n+1)=true:=decide_eq_true (by omega)
  have hd4:decide (n<n+1)=true:=decide_eq_true (by omega)
  have HC2:=lH hc2
  have HC3:Hid (∀ u,Below w3.heap.size w3 u→∃ w',copyRun Tryz.prog 55 55 3 (.slice (some ⟨w.heap.size,(i+1)*2,none⟩) (n - i) (c2 - (i+1))) (.slice (some ⟨g,i*2,none⟩) (n - i) (n - i)) u=.ok (.int .i64 ((n - i:Nat):Int)) w'∧RowF w.heap.size c2 (hs.take i++[y]++hs.drop i) w'∧Below w.heap.size w w'):=lH fun u hu=>by
   have hlen3:(((hs.take i++List.replicate (n+1 - i) ((0,none,0,0):Hw)).take i++[y]++(hs.take i++List.replicate (n+1 - i) ((0,none,0,0):Hw)).drop (i+[y].length))).length=n+1:=by
    simp only [List.length_append,List.length_take,List.length_drop,List.length_singleton,List.length_replicate];omega
   have hdl:(hs.drop i).length=n - i:=by rw [List.length_drop];omega
   obtain ⟨w',h1,h2,h3⟩:=Row.copy (u:=55) elemF 3 (HR3.out.stays hu) (ys:=hs.drop i) (o:=i+1) (dl:=n - i) (dc:=c2 - (i+1)) (by omega) (by omega) (by omega) ⟨g,i*2,none⟩ (n - i) ((HRo.out.stays hu).cells i)
   rw [hdl] at h1
   have hbu:=hb3.trans (hu.mono hb3.size)
   refine ⟨w',h1,?_,hbu.grown h3 hbu.size (fun k hk=>by injection hk with e;omega)⟩
   have e1:((hs.take i++List.replicate (n+1 - i) ((0,none,0,0):Hw)).take i++[y]++(hs.take i++List.replicate (n+1 - i) ((0,none,0,0):Hw)).drop (i+[y].length)).take (i+1)=hs.take i++[y]:=by
    rw [List.take_append_of_le_length (by simp only [List.length_append,List.length_take,List.length_singleton,List.length_replicate];omega)]
    rw [List.take_of_length_le (by simp only [List.length_append,List.length_take,List.length_singleton,List.length_replicate];omega)]
    rw [List.take_append_of_le_length (by rw [List.length_take];omega),List.take_take,Nat.min_self]
   have e3:((hs.take i++List.replicate (n+1 - i) ((0,none,0,0):Hw)).take i++[y]++(hs.take i++List.replicate (n+1 - i) ((0,none,0,0):Hw)).drop (i+[y].length)).drop (i+1+(n - i))=[]:=List.drop_of_length_le (by rw [hlen3];omega)
   rw [e1,hdl,e3,List.append_nil] at h2
   exact h2
  have k1:IntKind.i64.wrap ((i:Int)+1)=(i:Int)+1:=IntWalk.i64_in _ (by omega)
  have k2:((i:Int)+1).toNat=i+1:=by omega
  have k3:(0:Int)≤(i:Int)+1:=by omega
  have k4:(i:Int)+1≤n+1:=by omega
  have k5:¬ c2=i+1:=by omega
  have k6:¬ (c2:Int)=(i:Int)+1:=by omega
  have k8:¬ n=i:=by omega
  have k7:((n - i:Nat):Int)=(n:Int) - i:=by omega
  clear hrow hv hr2 hr3 hl e1 e2 hc2
  go_enter Tryz.func211,Tryz.ntmps211
  go_wp2
  refine Rh.rg (fun _=>True) (fun u=>Below w3.heap.size w3 u) (fun _ _ _ _=>trivial) (fun _ _ h k=>nx h k) (trivial) ((Below.refl _ _).drew) [0,1,2,3,4,5,6,7,8] ?_
  repeat (first | (refine Rh.Steps.sk ?_;simp only [Act.put,sA,sB,sC]) | (refine Rh.Steps.pu (v:=?_) ?_ ?_;rotate_left;(intro w_ hS_;skip;go_simp<;>with_reducible rfl);simp only [Act.put,sA,sB,sC]))
  refine Rh.Steps.forced (i:=8) (by kernel_rfl) ?_
  refine Rh.One.new (fun v u=>RowF w.heap.size c2 (hs.take i++[y]++hs.drop i) u∧Below w.heap.size w u) (fun v _ _ h k=>⟨h.1.stays k,nx h.2 k⟩) (by rfl) (by rfl) ?_ ?_
  ·intro w_ hS_ hG_
   obtain ⟨w',h1,h2,h3⟩:=HC3.out w_ hG_
   rw [k7] at h1
   refine ⟨.int .i64 ((n:Int) - i),w',?_,trivial,h2,h3⟩
   go_simp
  intro v4 u5 hv4
  simp only [Act.put,sA,sB,sC]
  refine Rh.Steps.nil (by kernel_rfl) ?_
  intro w4 _ hG4
  have HG:=lH hG4
  clear hG4
  go_wp2
  go_ret
  exact ⟨_,_,rfl,HG.out.1,Nat.le_refl _,HG.out.2,HC2⟩
end Go.Proofs.YtjhocpcpkemcaaaGreat.Le
namespace Go.Proofs
open Go.Shelf
def Tryz.sortL_ren:Go.Shelf.Ren:=⟨fun | 189=>179 | 125=>201 | 257=>200 | 128=>225 | 129=>226 | 294=>216 | 295=>217 | 296=>218 | 297=>219 | 298=>220 | 299=>221 | 216=>222 | 300=>223 | 301=>224 | 328=>234 | 329=>235 | 330=>236 | 331=>237 | 332=>238 | 215=>158 | 343=>243 | n=>n,fun | 28=>186 | 3=>3 | 46=>146 | 0=>0 | 51=>228 | 53=>48 | 4=>4 | 183=>222 | 182=>221 | 131=>117 | 5=>5 | 9=>9 | 218=>237 | 222=>241 | 228=>245 | 229=>69 | n=>n,fun | n=>n⟩
theorem Tryz.sortL:Go.Proofs.Lays.n189 Tryz.prog Tryz.sortL_ren:={
 mixed:=by kernel_rfl
 f125:=Tryz.func201.trans (congrArg some (by kernel_rfl))
 f128:=Tryz.func225.trans (congrArg some (by kernel_rfl))
 f129:=Tryz.func226.trans (congrArg some (by kernel_rfl))
 f189:=Tryz.func179.trans (congrArg some (by kernel_rfl))
 f215:=Tryz.func158.trans (congrArg some (by kernel_rfl))
 f216:=Tryz.func222.trans (congrArg some (by kernel_rfl))
 f257:=Tryz.func200.trans (congrArg some (by kernel_rfl))
 f294:=Tryz.func216.trans (congrArg some (by kernel_rfl))
 f295:=Tryz.func217.trans (congrArg some (by kernel_rfl))
 f296:=Tryz.func218.trans (congrArg some (by kernel_rfl))
 f297:=Tryz.func219.trans (congrArg some (by kernel_rfl))
 f298:=Tryz.func220.trans (congrArg some (by kernel_rfl))
 f299:=Tryz.func221.trans (congrArg some (by kernel_rfl))
 f300:=Tryz.func223.trans (congrArg some (by kernel_rfl))
 f301:=Tryz.func224.trans (congrArg some (by kernel_rfl))
 f328:=Tryz.func234.trans (congrArg some (by kernel_rfl))
 f329:=Tryz.func235.trans (congrArg some (by kernel_rfl))
 f330:=Tryz.func236.trans (congrArg some (by kernel_rfl))
 f331:=Tryz.func237.trans (congrArg some (by kernel_rfl))
 f332:=Tryz.func238.trans (congrArg some (by kernel_rfl))
 f343:=Tryz.func243.trans (congrArg some (by kernel_rfl))
 t0:=Tryz.underlying0
 a0:=Tryz.isAgg0
 z0:=Tryz.sizeOf0
 v0:=Tryz.zeroValue0
 t3:=Tryz.underlying3
 a3:=Tryz.isAgg3
 z3:=Tryz.sizeOf3
 v3:=Tryz.zeroValue3
 t4:=Tryz.underlying4
 a4:=Tryz.isAgg4
 z4:=Tryz.sizeOf4
 v4:=Tryz.zeroValue4
 t5:=Tryz.underlying5
 a5:=Tryz.isAgg5
 z5:=Tryz.sizeOf5
 v5:=Tryz.zeroValue5
 t9:=Tryz.underlying9
 a9:=Tryz.isAgg9
 z9:=Tryz.sizeOf9
 v9:=Tryz.zeroValue9
 t28:=Tryz.underlying186
 a28:=Tryz.isAgg186
 z28:=Tryz.sizeOf186
 v28:=Tryz.zeroValue186
 t46:=Tryz.underlying146
 a46:=Tryz.isAgg146
 z46:=Tryz.sizeOf146
 v46:=Tryz.zeroValue146
 t51:=Tryz.underlying228
 a51:=Tryz.isAgg228
 z51:=Tryz.sizeOf228
 v51:=Tryz.zeroValue228
 t53:=Tryz.underlying48
 a53:=Tryz.isAgg48
 z53:=Tryz.sizeOf48
 v53:=Tryz.zeroValue48
 t131:=Tryz.underlying117
 a131:=Tryz.isAgg117
 z131:=Tryz.sizeOf117
 v131:=Tryz.zeroValue117
 t182:=Tryz.underlying221
 a182:=Tryz.isAgg221
 z182:=Tryz.sizeOf221
 v182:=Tryz.zeroValue221
 t183:=Tryz.underlying222
 a183:=Tryz.isAgg222
 z183:=Tryz.sizeOf222
 v183:=Tryz.zeroValue222
 t218:=Tryz.underlying237
 a218:=Tryz.isAgg237
 z218:=Tryz.sizeOf237
 v218:=Tryz.zeroValue237
 t222:=Tryz.underlying241
 a222:=Tryz.isAgg241
 z222:=Tryz.sizeOf241
 v222:=Tryz.zeroValue241
 t228:=Tryz.underlying245
 a228:=Tryz.isAgg245
 z228:=Tryz.sizeOf245
 v228:=Tryz.zeroValue245
 t229:=Tryz.underlying69
 a229:=Tryz.isAgg69
 z229:=Tryz.sizeOf69
 v229:=Tryz.zeroValue69 }
def Tryz.cmpL_ren:Go.Shelf.Ren:=⟨fun | 20=>180 | n=>n,fun | 22=>186 | 3=>3 | 4=>4 | 0=>0 | n=>n,fun | n=>n⟩
theorem Tryz.cmpL:Go.Proofs.Lays2.n20 Tryz.prog Tryz.cmpL_ren:={
 mixed:=by kernel_rfl
 f20:=Tryz.func180.trans (congrArg some (by kernel_rfl))
 t0:=Tryz.underlying0
 a0:=Tryz.isAgg0
 z0:=Tryz.sizeOf0
 v0:=Tryz.zeroValue0
 t3:=Tryz.underlying3
 a3:=Tryz.isAgg3
 z3:=Tryz.sizeOf3
 v3:=Tryz.zeroValue3
 t4:=Tryz.underlying4
 a4:=Tryz.isAgg4
 z4:=Tryz.sizeOf4
 v4:=Tryz.zeroValue4
 t22:=Tryz.underlying186
 a22:=Tryz.isAgg186
 z22:=Tryz.sizeOf186
 v22:=Tryz.zeroValue186
 i3:=by kernel_rfl }
end Go.Proofs
namespace Go.Proofs.YtjhocpcpkemcaaaGreat.Le
open Go.RowKit
open Rw
open Da
theorem compact_nodup {zs:List Int} (hs:zs.Pairwise (·≤·)):(Lib.compact zs).length=zs.length ↔ zs.Nodup:=by
 have hget:∀ j (h:j<zs.length),zs.toArray[j]! = zs[j]:=fun j h=>by simp [h]
 constructor
 ·intro h
  have hall:∀ j,j<zs.length→Lib.keeps zs.toArray j=true:=by
   unfold Lib.compact Lib.compactUpTo at h
   rw [List.length_map] at h
   have h2:(List.filter (Lib.keeps zs.toArray) (List.range zs.length)).length=(List.range zs.length).length:=by rw [h,List.length_range]
   have h3:=List.length_filter_eq_length_iff.1 h2
   exact fun j hj=>h3 j (List.mem_range.2 hj)
  have hlt:zs.Pairwise (·<·):=by
   rw [List.pairwise_iff_getElem] at hs ⊢
   intro i j hi hj hij
   have h1:=hall j hj
   unfold Lib.keeps at h1
   have h2:=of_decide_eq_true h1
   rcases h2 with h2 | h2
   ·omega
   ·rw [hget j hj,hget (j - 1) (by omega)] at h2
    have h3:=hs (j - 1) j (by omega) hj (by omega)
    have h4:zs[i]≤zs[j - 1]:=by
     rcases Nat.lt_or_ge i (j - 1) with h | h
     ·exact hs i (j - 1) hi (by omega) h
     ·have e:i=j - 1:=by omega
      subst e;exact Int.le_refl _
    omega
  exact hlt.imp (fun h=>by omega)
 ·intro h
  rw [Lib.compact_all]
  intro j hj
  by_cases h0:j=0
  ·subst h0;simp [Lib.keeps]
  ·refine Lib.keeps_pos ?_
   rw [hget j hj,hget (j - 1) (by omega)]
   exact fun e=>(List.pairwise_iff_getElem.1 h) (j - 1) j (by omega) hj (by omega) e.symm
def nodB (os:List Od):Bool:=decide ((os.map oid).Nodup)
def Ints (g m:Nat) (f:Nat→Int) (w:World):Prop:=g<w.heap.size∧∀ j,j<m→w.cell? ⟨g,j,none⟩=some (.int .i64 (f j))∧w.frozen? ⟨g,j,none⟩=false
theorem Ints.stays {g m:Nat} {f:Nat→Int} {w w':World} (h:Ints g m f w) (hb:Below w.heap.size w w'):Ints g m f w' :=
 ⟨Nat.lt_of_lt_of_le h.1 hb.size,fun j hj=>⟨(hb.cell (p:=⟨g,j,none⟩) h.1).trans (h.2 j hj).1,(hb.frozen (p:=⟨g,j,none⟩) h.1).trans (h.2 j hj).2⟩⟩
theorem Ints.set {g m k:Nat} {f:Nat→Int} {x:Int} {w:World} (h:Ints g m f w) (hk:k<m):Ints g m (fun j=>if j=k then x else f j) (w.setCell ⟨g,k,none⟩ (.int .i64 x)):=by
 refine ⟨by simpa using h.1,fun j hj=>⟨?_,by rw [World.frozen?_setCell];exact (h.2 j hj).2⟩⟩
 by_cases e:j=k
 ·subst e
  rw [World.cell?_setCell_same' _ _ _ (by rw [(h.2 j hj).1];rfl)];simp
 ·refine (World.cell?_setCell_other _ _ _ _ (by intro e2;exact e (by injection e2 with _ e3;exact e3.symm))).trans ?_
  simp only [e,if_false]
  exact (h.2 j hj).1
theorem Ints.congr {g m:Nat} {f f':Nat→Int} {w:World} (h:Ints g m f w) (he:∀ j,j<m→f j=f' j):Ints g m f' w :=
 ⟨h.1,fun j hj=>by rw [← he j hj];exact h.2 j hj⟩
theorem Ints.holds {g:Nat} {zs:List Int} {w:World} (h:Ints g zs.length (fun j=>zs.getD j 0) w):Go.Sort.Holds (Value.int .i64) w g 0 zs.toArray:=by
 intro j hj
 have hj2:j<zs.length:=by simpa using hj
 rw [Nat.zero_add]
 refine ⟨?_,(h.2 j hj2).2⟩
 rw [(h.2 j hj2).1]
 simp [hj2]
theorem grown_putRow {w:World} {g off n:Nat} (d:Array Int) (os:Array Obj):w.grownBy (Go.Sort.grow (Go.Sort.putRow (Value.int .i64) (Sort.ahead w n) g off d) os) (some g):=by
 refine ⟨rfl,rfl,rfl,by simp [Go.Sort.grow,Go.Sort.putRow,Go.Sort.mapBlock,Sort.ahead],fun k hk hne=>?_⟩
 rw [Go.Sort.heap_grow_old _ _ (by simpa [Sort.ahead] using hk)]
 have:g≠k:=fun e=>hne (by rw [e])
 simp [Go.Sort.putRow,Go.Sort.mapBlock,Sort.ahead,Array.getElem?_modify,this]
theorem ints_putRow {w:World} {g n:Nat} {zs ss:List Int} (os:Array Obj) (h:Ints g zs.length (fun j=>zs.getD j 0) w) (hl:ss.length=zs.length):Ints g zs.length (fun j=>ss.getD j 0) (Go.Sort.grow (Go.Sort.putRow (Value.int .i64) (Sort.ahead w n) g 0 ss.toArray) os):=by
 have hs:g<(Go.Sort.putRow (Value.int .i64) (Sort.ahead w n) g 0 ss.toArray).heap.size:=by simpa [Sort.ahead] using h.1
 have hH:=Go.Sort.holds_grow (Value.int .i64) _ os g 0 _ hs (Go.Sort.holds_putRow (Value.int .i64) (Sort.ahead w n) g 0 zs.toArray ss.toArray (Go.Sort.holds_ahead _ w n g 0 _ h.holds) (by simpa using hl))
 refine ⟨by simp [Go.Sort.grow];simp at hs;omega,fun j hj=>?_⟩
 have:=hH j (by simp;omega)
 rw [Nat.zero_add] at this
 refine ⟨?_,this.2⟩
 rw [this.1]
 have hjs:j<ss.length:=by omega
 simp [hjs]
def SortPost (zs:List Int) (g:Nat) (w:World) (e:Ending) (w':World):Prop:=∃ ss:List Int,e=.returned (.tuple #[])∧w.grownBy w' (some g)∧Ints g zs.length (fun j=>ss.getD j 0) w'∧ss.Perm zs∧ss.Pairwise (·≤·)∧ss.length=zs.length
theorem sort_any (g m:Nat) (zs:List Int) (w:World) (hm:m=zs.length) (h:Ints g m (fun j=>zs.getD j 0) w) (h6:m≤1000000):Calls Tryz.prog 179 #[.slice (some ⟨g,0,none⟩) m m] w (SortPost zs g w):=by
 subst hm
 refine (Any.slices_Sort_int Tryz.sortL g 0 zs.length zs w h.holds h.1 (by omega)).mono ?_
 rintro e w' ⟨rfl,n,os,rfl⟩
 have hl:(zs.mergeSort fun x y=>decide (x≤y)).length=zs.length:=List.length_mergeSort zs
 refine ⟨_,rfl,grown_putRow _ _,ints_putRow os h hl,List.mergeSort_perm zs _,?_,hl⟩
 have:=List.pairwise_mergeSort (le:=fun (x y:Int)=>decide (x≤y)) (fun a b c h1 h2=>by simp at *;omega) (fun a b=>by simp;omega) zs
 exact this.imp (fun h=>by simpa using h)
theorem compact_any (g m:Nat) (ss:List Int) (w:World) (hm:m=ss.length) (h:Ints g m (fun j=>ss.getD j 0) w) (h6:m≤1000000):Calls Tryz.prog 180 #[.slice (some ⟨g,0,none⟩) m m] w fun e w'=>e=.returned (.slice (some ⟨g,0,none⟩) (Lib.compact ss).length m)∧w.grownBy w' (some g):=by
 subst hm
 refine (Any.slices_Compact_int Tryz.cmpL g 0 ss.length ss w h.holds (by omega) (Nat.le_refl _)).mono ?_
 rintro e w' ⟨rfl,q,rfl⟩
 have:=grown_putRow (w:=w) (g:=g) (off:=0) (n:=q) (Lib.compact ss++List.replicate (ss.length - (Lib.compact ss).length) 0).toArray #[]
 rw [Go.Sort.grow_empty] at this
 exact ⟨rfl,this⟩
theorem nod_of {os:List Od} {ss:List Int} (hp:ss.Perm (os.map oid)) (hs:ss.Pairwise (·≤·)):nodB os=decide ((Lib.compact ss).length=os.length):=by
 have hl:ss.length=os.length:=by rw [hp.length_eq,List.length_map]
 have h1:=compact_nodup hs
 rw [hl] at h1
 unfold nodB
 rw [Bool.eq_iff_iff,decide_eq_true_iff,decide_eq_true_iff,h1]
 exact hp.nodup_iff.symm
theorem infoIs:(Tryz.prog.info? 3).map (fun i=>(i.zero,i.size,i.bytes))=some (some (.int .i64 0),1,8):=by kernel_rfl
theorem make_ints (m:Nat) (hm:m≤1000000) (w:World):(Instr.makeSlice 186 (.int .i64 m) (.int .i64 m)).run Tryz.prog w=.ok (.slice (some ⟨w.heap.size,0,none⟩) m m) (w.alloc (.cells (madeCells #[.int .i64 0] m) 3)):=by
 obtain ⟨i,h1,h2,h3,h4⟩:=info_parts infoIs
 have:=run_make (P:=Tryz.prog) w 186 3 i _ Tryz.underlying186 h1 h2 .i64 .i64 m m (by omega) (Int.le_refl _) (by rw [h4];omega) (by omega)
 rw [h3] at this
 simpa [Value.cells] using this
theorem ints_made (m:Nat) (w:World):Ints w.heap.size m (fun _=>0) (w.alloc (.cells (madeCells #[.int .i64 0] m) 3)):=by
 refine ⟨by simp,fun j hj=>⟨?_,?_⟩⟩
 ·simp only [World.cell?,heap_alloc_new]
  simp [madeCells,hj]
  rw [Nat.mod_one];rfl
 ·simp only [World.frozen?,heap_alloc_new]
  simp
theorem ownIds_any (B:Bs) (os:List Od) (x:Value) (w:World) (h:OL B os x w) (hm:os.length≤1000000) :
  Calls Tryz.prog 177 #[x] w fun e w'=>e=.returned (.bool (nodB os))∧Below w.heap.size w w':=by
 obtain ⟨a2,c2,rfl,hel⟩:=h
 obtain ⟨m,hmm⟩:∃ m,m=os.length:=⟨_,rfl⟩
 have HE:=lH hel
 rw [← hmm] at hm ⊢
 have HM:=lH hmm
 have hmk:=lH (make_ints m hm)
 have hmk':=hmk.out
 clear hel hmm
 go_enter Tryz.func177,Tryz.ntmps177
 go_wp2
 clear hmk'
 obtain ⟨W,hW⟩:∃ W,W=w.alloc (.cells (madeCells #[.int .i64 0] m) 3):=⟨_,rfl⟩
 have hbW:Below w.heap.size w W:=hW ▸ below1 w _
 have hI:Ints w.heap.size m (fun _=>0) W:=hW ▸ ints_made m w
 rw [← hW]
 clear hW
 have HI:=lH hI
 clear hI
 go_loopw [4,11] (fun _ i wr=>∃ k:Nat,k≤m∧i=.int .i64 k∧Below w.heap.size w wr∧Ints w.heap.size m (fun j=>if j<k then (os.map oid).getD j 0 else 0) wr) (fun _ i _=>m - (intOf i).toNat)
 case atStart=>exact ⟨0,Nat.zero_le _,rfl,hbW,HI.out.congr (fun j _=>by simp)⟩
 case round =>
  obtain ⟨k,hk,rfl,hb,hint⟩:=hrel
  by_cases hlt:k<m
  ·have hlt2:(k:Int)<m:=by omega
   have hko:k<os.length:=by rw [← HM.out];exact hlt
   rcases HE.out with ⟨e,_⟩ | ⟨b2,off2,rfl,hat2⟩
   ·rw [e] at hko;cases hko
   ·have hat3:=Lies.keep eO 74 hat2 (Keeps.of_below hb)
    have hc5:=at5 hat3 k hko
    have hb2:=hat3.1
    have hget:(os.map oid).getD k 0=os[k].1:=by simp [hko,oid]
    obtain ⟨⟨o1,o2,o3,o4,o5⟩,ho⟩:∃ o,os[k]'hko=o:=⟨_,rfl⟩
    rw [ho] at hc5 hget
    simp only at hc5 hget
    obtain ⟨s0,s1,s2,s3,s4⟩:=hc5
    obtain ⟨i0,i1⟩:=hint.2 k hlt
    simp only [Nat.lt_irrefl,if_false] at i0
    have hgz:=hint.1
    have HN:Hid (Ints w.heap.size m (fun j=>if j<k+1 then (os.map oid).getD j 0 else 0) ((wr.setCell ⟨w.heap.size,k,none⟩ (.int .i64 o1)).alloc (.cells #[.int .i64 o1,.int .i64 o2,.int .i64 o3,.int .i64 o4,.int .i64 o5] 74))):=lH (((hint.set (x:=o1) hlt).stays (below1 _ _)).congr (fun j hj=>by
     by_cases e:j=k
     ·subst e;rw [if_pos rfl,if_pos (by omega),hget]
     ·rw [if_neg e]
      by_cases e2:j<k
      ·rw [if_pos e2,if_pos (by omega)]
      ·rw [if_neg e2,if_neg (by omega)]))
    have hbn:Below w.heap.size w ((wr.setCell ⟨w.heap.size,k,none⟩ (.int .i64 o1)).alloc (.cells #[.int .i64 o1,.int .i64 o2,.int .i64 o3,.int .i64 o4,.int .i64 o5] 74)):=(hb.setCell (Nat.le_refl _) _).alloc (by simp;omega) _
    clear hint ho hat2 hat3 hget
    go_wp2
    go_roundw
    case rel=>exact ⟨k+1,by omega,by go_num,hbn,HN.out⟩
    case measure=>simp [intOf];omega
  ·obtain rfl:k=m:=by omega
   have hin2:Ints w.heap.size k (fun j=>(os.map oid).getD j 0) wr:=hint.congr (fun j hj=>if_pos hj)
   have HN:=lH hin2
   have hml:k=(os.map oid).length:=by rw [List.length_map];exact HM.out
   have HL:=lH hml
   clear hint hin2 hml
   go_wp2_with fail
   refine (sort_any w.heap.size k _ wr HL.out HN.out hm).mono ?_
   rintro e w1 ⟨ss,rfl,hg1,hi1,hp,hsd,hsl⟩
   have HI1:Hid (Ints w.heap.size k (fun j=>ss.getD j 0) w1):=lH (by rw [HL.out];exact hi1)
   have HS:Hid (k=ss.length):=lH (by rw [hsl];exact HL.out)
   have HD:Hid (nodB os=decide ((Lib.compact ss).length=k)):=lH (by rw [nod_of hp hsd,← HM.out])
   have hb1:Below w.heap.size w w1:=hb.grown hg1 hb.size (fun k hk=>by injection hk with e;omega)
   clear hi1 hsl hp hsd hg1 hb
   go_wp2_with fail
   refine (compact_any w.heap.size k ss w1 HS.out HI1.out hm).mono ?_
   rintro e w2 ⟨rfl,hg2⟩
   have hb2:Below w.heap.size w w2:=hb1.grown hg2 hb1.size (fun k hk=>by injection hk with e;omega)
   go_wp2
   go_ret
   exact ⟨ret_bool (by rw [HD.out,Bool.eq_iff_iff];simp;omega),hb2⟩
theorem ahead_is {s a b:Int} {r:Bool} (hr:Hid (ahead s a b=r)) (g:Nat) {w:World} (hg:g<w.heap.size∧w.cell? ⟨g,0,none⟩=some (.int .i64 s)):Calls Tryz.prog 197 #[.int .i64 a,.int .i64 b,.pointer (some ⟨g,0,none⟩)] w fun e w'=>e=.returned (.bool r)∧w=w':=by
 rw [← hr.out];exact ahead_any s a b g w hg.1 hg.2
theorem lvB_iff {s p:Int} {os:List Od}:lvB s p os=true ↔ okLv s (p,os):=by
 unfold lvB okLv okO
 simp only [Bool.and_eq_true,List.all_eq_true,decide_eq_true_eq]
 constructor
 ·rintro ⟨h1,h2⟩
  exact ⟨fun e=>by have e2:os=[]:=e;subst e2;simp at h2,h1⟩
 ·rintro ⟨h1,h2⟩
  refine ⟨h2,?_⟩
  cases os with
  | nil=>exact absurd rfl h1
  | cons=>rfl
def RgtL (s:Int) (l:List Lv):Prop:=(∀ v∈l,okLv s v)∧l.Pairwise (fun a b=>ahead s a.1 b.1=true)
theorem rgt_snoc {s:Int} {l:List Lv} {k:Nat} (hk:k<l.length) (h:RgtL s (l.take k)) (hv:okLv s l[k]) (ha:k=0∨∃ h:k - 1<l.length,ahead s l[k - 1].1 l[k].1=true):RgtL s (l.take (k+1)):=by
 rw [Da.take_snoc hk]
 refine ⟨fun v hm=>?_,?_⟩
 ·rcases List.mem_append.1 hm with hm | hm
  ·exact h.1 v hm
  ·simp only [List.mem_singleton] at hm;rw [hm];exact hv
 ·rw [List.pairwise_append]
  refine ⟨h.2,by simp,fun a ha' b hb=>?_⟩
  simp only [List.mem_singleton] at hb
  subst hb
  rcases ha with e | ⟨hk1,ha⟩
  ·subst e;simp at ha'
  ·obtain ⟨i,hi,rfl⟩:=List.getElem_of_mem ha'
   rw [List.length_take] at hi
   have hi2:i<k:=by omega
   rw [List.getElem_take]
   by_cases e:i=k - 1
   ·subst e;exact ha
   ·have hp:=List.pairwise_iff_getElem.1 h.2 i (k - 1) (by rw [List.length_take];omega) (by rw [List.length_take];omega) (by omega)
    rw [List.getElem_take,List.getElem_take] at hp
    exact ahead_trans hp ha
theorem rgt_all {s:Int} {l:List Lv} (hs:s=1∨s=2) (h:RgtL s l):rightL s l=nodB (flat l):=by
 rw [Bool.eq_iff_iff,rightL_iff]
 unfold nodB
 rw [decide_eq_true_iff]
 exact ⟨fun k=>k.2.2.2,fun k=>⟨hs,h.1,h.2,k⟩⟩
theorem right_side {s:Int} {l:List Lv} (h:¬ (s=1∨s=2)):rightL s l=false:=rightL_no fun k=>h k.1
theorem right_at {s:Int} {l:List Lv} {k:Nat} (hk:k<l.length) (h:RightL s l):okLv s l[k]∧∀ (_:0<k),ahead s (l[k - 1]'(by omega)).1 l[k].1=true :=
 ⟨h.2.1 _ (List.getElem_mem hk),fun h0=>List.pairwise_iff_getElem.1 h.2.2.1 (k - 1) k (by omega) hk (by omega)⟩
theorem right_big (B:Bs) (l:List Lv) (v:Value) (s:Int) (w:World) (h:LL B l v w) (hB:B.le w.heap.size) (hm:l.length≤1000000) (hf:(flat l).length≤1000000) :
  Calls Tryz.prog 145 #[v,.int .i64 s] w fun e w'=>e=.returned (.bool (rightL s l))∧Below w.heap.size w w':=by
 by_cases hs:s=1∨s=2
 ·have hcase:(s != 1)=true∧(s != 2)=false∨(s != 1)=false:=by rcases hs with e | e<;>simp [e]
  obtain ⟨a1,c1,rfl,h1⟩:=h
  have HA:=lH h1
  have HL:Hid (∀ u,Below w.heap.size w u→LL B l (.slice a1 l.length c1) u):=lH fun u hu=>Is.stays eL 106 ⟨a1,c1,rfl,h1⟩ hu
  have HBl:Hid (∀ u,Below w.heap.size w u→B.le u.heap.size):=lH fun u hu=>hB.mono hu.size
  have HFl:=lH hf
  obtain ⟨n,hn⟩:∃ n,n=l.length:=⟨_,rfl⟩
  rw [← hn] at hm ⊢
  have HN:=lH hn
  have HSd:=lH hs
  obtain ⟨r,hr⟩:∃ r,rightL s l=r:=⟨_,rfl⟩
  rw [hr]
  have HR:=lH hr
  have HNo:Hid (¬ RightL s l→r=false):=lH fun h=>by rw [← hr];exact rightL_no h
  clear h1 hn hf hr hs hB
  rcases hcase with ⟨d1,d2⟩ | d1
  all_goals
   go_enter Tryz.func145,Tryz.ntmps145
   go_wp2_with fail
   refine (aheadOn_any s _).mono ?_
   rintro e W ⟨f,rfl,hbW,hf⟩
   have HAh:=lH (show ∀ u,Below W.heap.size W u→Ahd s f u from fun u hu=>hf.stays hu)
   obtain ⟨g,rfl,hg,hgc⟩:=hf
   have HG:=lH (show ∀ u,Below W.heap.size W u→g<u.heap.size∧u.cell? ⟨g,0,none⟩=some (.int .i64 s) from fun u hu=>⟨Nat.lt_of_lt_of_le hg hu.size,(hu.cell (p:=⟨g,0,none⟩) hg).trans hgc⟩)
   clear hg hgc HAh
   go_wp2
   go_loopw [6,18] (fun _ i wr=>∃ k:Nat,k≤n∧i=.int .i64 k∧Below W.heap.size W wr∧RgtL s (l.take k)) (fun _ i _=>n - (intOf i).toNat)
   case atStart=>exact ⟨0,Nat.zero_le _,rfl,Below.refl _ _,by simp,by simp⟩
   case round =>
    obtain ⟨wo,rfl⟩:∃ wo:World,wo=wr:=⟨_,rfl⟩
    obtain ⟨k,hk,rfl,hb,hrt⟩:=hrel
    have HT:=lH hrt
    clear hrt
    have hbo:=nx hbW hb
    by_cases hlt:k<n
    ·have hlt2:(k:Int)<n:=by omega
     have hkl:k<l.length:=by rw [← HN.out];exact hlt
     rcases HA.out with ⟨e,_⟩ | ⟨b,off,rfl,hat⟩
     ·rw [e] at hkl;cases hkl
     have hat2:=Lies.keep eL 106 hat (Keeps.of_below hbo)
     have hbb:=hat2.1
     obtain ⟨x,q0,q1,hx⟩:=atL hat2 k hkl
     have hle:=flat_take_le l (k+1)
     rw [flat_take_snoc hkl,List.length_append] at hle
     have hpt:=lH (fun h:RightL s l=>right_at hkl h)
     have hsn:=lH (rgt_snoc hkl HT.out)
     obtain ⟨⟨pr,os⟩,hlk⟩:∃ y,l[k]'hkl=y:=⟨_,rfl⟩
     rw [hlk] at q0 hx hle hpt hsn
     simp only at q0 hx hle hpt hsn
     have hosl:os.length≤1000000:=by have:=HFl.out;omega
     have HX0:=lH hx
     obtain ⟨a2,c2,rfl⟩:=hx.len
     obtain ⟨V,hV⟩:∃ V,V=wo.alloc (.cells #[.int .i64 pr,.slice a2 os.length c2] 106):=⟨_,rfl⟩
     have hbV:Below wo.heap.size wo V:=hV ▸ below1 wo _
     have hzV:wo.heap.size<V.heap.size:=by rw [hV];simp
     have s0:V.cell? ⟨wo.heap.size,0,none⟩=some (.int .i64 pr):=by rw [hV];simp [go_sem]
     have s1:V.cell? ⟨wo.heap.size,1,none⟩=some (.slice a2 os.length c2):=by rw [hV];simp [go_sem]
     have hbw:=nx hb hbV
     have hF:∀ u,Below V.heap.size V u→u.cell? ⟨wo.heap.size,0,none⟩=some (.int .i64 pr)∧u.cell? ⟨wo.heap.size,1,none⟩=some (.slice a2 os.length c2):=fun u hu =>
      ⟨by rw [hu.cell (p:=⟨wo.heap.size,0,none⟩) hzV];exact s0,by rw [hu.cell (p:=⟨wo.heap.size,1,none⟩) hzV];exact s1⟩
     have HX:=lH (show ∀ u,Below V.heap.size V u→OL B os (.slice a2 os.length c2) u from fun u hu=>Is.stays eO 74 HX0.out (nx hbV hu))
     have HGv:=lH (show ∀ u,Below V.heap.size V u→g<u.heap.size∧u.cell? ⟨g,0,none⟩=some (.int .i64 s) from fun u hu=>HG.out u (nx hbw hu))
     have HV:=lH hV
     clear hV hle s0 s1 hx
     cases hlv:lvB s pr os
     ·have HLv:=lH hlv
      have HZ:Hid (r=false):=lH (HNo.out fun h=>by
       have:=lvB_iff.2 (hpt.out h).1
       rw [hlv] at this;cases this)
      clear hlv hlk
      go_wp2
      rw [← HV.out]
      refine Rf.rg [0,1,2,3,4,5,6,7,8,9,10,11,12,13,14,15,16,17,18,19,20] ?_
      repeat (first | (refine Rf.Steps.sk ?_;simp only [Act.put,sA,sB,sC]) | (refine Rf.Steps.pu (v:=?_) ?_ ?_;rotate_left;(intro w_ hS_;have hk_:=hF w_ hS_;go_simp<;>with_reducible rfl);simp only [Act.put,sA,sB,sC]) | (refine Rf.Steps.ca (v:=?_) (f:=?_) (args:=?_) ?_ ?_ ?_;rotate_left 3;(intro w_ hS_;have hk_:=hF w_ hS_;go_simp<;>first | with_reducible rfl | (constructor<;>with_reducible rfl));(intro w_ hS_;have hk_:=hF w_ hS_;first | (go_at_call 176;refine (isLevel_is HLv (HX.out w_ hS_) hosl).mono ?_;first | (rintro e w_ ⟨rfl,rfl⟩;refine ⟨?_,Below.refl _ _⟩;with_reducible rfl) | (rintro e w_ ⟨rfl,hb_⟩;refine ⟨?_,hb_⟩;with_reducible rfl)));simp only [Act.put,sA,sB,sC]))
      refine Rf.Steps.nil (by kernel_rfl) ?_
      intro w4 hb6
      go_wp2
      go_ret
      exact ⟨ret_bool HZ.out.symm,nx hbW (nx hbw hb6)⟩
     have HLv:=lH hlv
     have HLv2:=lH (lvB_iff.1 hlv)
     clear hlv
     have hway:(k=0∧decide ((0:Int)<(k:Int))=false)∨(0<k∧decide ((0:Int)<(k:Int))=true):=by
      rcases Nat.eq_zero_or_pos k with e | e
      ·exact .inl ⟨e,by simp [e]⟩
      ·exact .inr ⟨e,by simpa using e⟩
     rcases hway with ⟨hk0,d3⟩ | ⟨hk0,d3⟩
     ·have d3':decide (0<k)=false:=by simp [hk0]
      have HN2:Hid (RgtL s (l.take (k+1))):=lH (hsn.out HLv2.out (.inl hk0))
      clear hk0 hlk
      go_wp2
      rw [← HV.out]
      refine Rf.rg [0,1,2,3,4,5,6,7,8,9,10,11,12,13,14,15,16,17,18,19,20] ?_
      repeat (first | (refine Rf.Steps.sk ?_;simp only [Act.put,sA,sB,sC]) | (refine Rf.Steps.pu (v:=?_) ?_ ?_;rotate_left;(intro w_ hS_;have hk_:=hF w_ hS_;go_simp<;>with_reducible rfl);simp only [Act.put,sA,sB,sC]) | (refine Rf.Steps.ca (v:=?_) (f:=?_) (args:=?_) ?_ ?_ ?_;rotate_left 3;(intro w_ hS_;have hk_:=hF w_ hS_;go_simp<;>first | with_reducible rfl | (constructor<;>with_reducible rfl));(intro w_ hS_;have hk_:=hF w_ hS_;first | (go_at_call 176;refine (isLevel_is HLv (HX.out w_ hS_) hosl).mono ?_;first | (rintro e w_ ⟨rfl,rfl⟩;refine ⟨?_,Below.refl _ _⟩;with_reducible rfl) | (rintro e w_ ⟨rfl,hb_⟩;refine ⟨?_,hb_⟩;with_reducible rfl)));simp only [Act.put,sA,sB,sC]))
      refine Rf.Steps.nil (by kernel_rfl) ?_
      intro w4 hb6
      go_wp2
      go_roundw
      case rel=>exact ⟨k+1,by omega,by go_num,nx hbw hb6,HN2.out⟩
      case measure=>simp [intOf];omega
     ·have d3':decide (0<k)=true:=by simpa using hk0
      have hkp:k - 1<l.length:=by omega
      obtain ⟨x',t0,t1,_⟩:=atL hat2 (k - 1) hkp
      obtain ⟨pp,hpp⟩:∃ pp,(l[k - 1]'hkp).1=pp:=⟨_,rfl⟩
      rw [hpp] at t0
      have d4:IntKind.i64.wrap ((k:Int) - 1)=(k:Int) - 1:=IntWalk.i64_in _ (by omega)
      have d5:((k:Int) - 1).toNat=k - 1:=by omega
      have d6:(0:Int)≤(k:Int) - 1:=by omega
      have d6':(1:Int)≤(k:Int):=by omega
      have d7:(k:Int) - 1<n:=by omega
      have hF2:∀ u,Below V.heap.size V u→(u.cell? ⟨wo.heap.size,0,none⟩=some (.int .i64 pr)∧u.cell? ⟨wo.heap.size,1,none⟩=some (.slice a2 os.length c2))∧u.cell? ⟨b,off+(k - 1)*2,none⟩=some (.int .i64 pp):=fun u hu =>
       ⟨hF u hu,by rw [(nx hbV hu).cell (p:=⟨b,off+(k - 1)*2,none⟩) hbb];exact t0⟩
      have HPp:=lH hpp
      have HLk:=lH hlk
      clear t1 t0 hpp hlk
      cases hah:ahead s pp pr
      ·have HQ:=lH hah
       have HZ:Hid (r=false):=lH (HNo.out fun h=>by
        have h2:=(hpt.out h).2 hk0
        rw [HPp.out,hah] at h2;cases h2)
       clear hah hF
       go_wp2
       rw [← HV.out]
       refine Rf.rg [0,1,2,3,4,5,6,7,8,9,10,11,12,13,14,15,16,17,18,19,20] ?_
       repeat (first | (refine Rf.Steps.sk ?_;simp only [Act.put,sA,sB,sC]) | (refine Rf.Steps.pu (v:=?_) ?_ ?_;rotate_left;(intro w_ hS_;have hk_:=hF2 w_ hS_;go_simp<;>with_reducible rfl);simp only [Act.put,sA,sB,sC]) | (refine Rf.Steps.ca (v:=?_) (f:=?_) (args:=?_) ?_ ?_ ?_;rotate_left 3;(intro w_ hS_;have hk_:=hF2 w_ hS_;go_simp<;>first | with_reducible rfl | (constructor<;>with_reducible rfl));(intro w_ hS_;have hk_:=hF2 w_ hS_;first | (go_at_call 176;refine (isLevel_is HLv (HX.out w_ hS_) hosl).mono ?_;first | (rintro e w_ ⟨rfl,rfl⟩;refine ⟨?_,Below.refl _ _⟩;with_reducible rfl) | (rintro e w_ ⟨rfl,hb_⟩;refine ⟨?_,hb_⟩;with_reducible rfl)) | (go_at_call 197;refine (ahead_is HQ g (HGv.out w_ hS_)).mono ?_;first | (rintro e w_ ⟨rfl,rfl⟩;refine ⟨?_,Below.refl _ _⟩;with_reducible rfl) | (rintro e w_ ⟨rfl,hb_⟩;refine ⟨?_,hb_⟩;with_reducible rfl)));simp only [Act.put,sA,sB,sC]))
       refine Rf.Steps.nil (by kernel_rfl) ?_
       intro w4 hb6
       go_wp2
       go_ret
       exact ⟨ret_bool HZ.out.symm,nx hbW (nx hbw hb6)⟩
      ·have HQ:=lH hah
       have HN2:Hid (RgtL s (l.take (k+1))):=lH (hsn.out HLv2.out (.inr ⟨hkp,by rw [HPp.out];exact hah⟩))
       clear hah hF
       go_wp2
       rw [← HV.out]
       refine Rf.rg [0,1,2,3,4,5,6,7,8,9,10,11,12,13,14,15,16,17,18,19,20] ?_
       repeat (first | (refine Rf.Steps.sk ?_;simp only [Act.put,sA,sB,sC]) | (refine Rf.Steps.pu (v:=?_) ?_ ?_;rotate_left;(intro w_ hS_;have hk_:=hF2 w_ hS_;go_simp<;>with_reducible rfl);simp only [Act.put,sA,sB,sC]) | (refine Rf.Steps.ca (v:=?_) (f:=?_) (args:=?_) ?_ ?_ ?_;rotate_left 3;(intro w_ hS_;have hk_:=hF2 w_ hS_;go_simp<;>first | with_reducible rfl | (constructor<;>with_reducible rfl));(intro w_ hS_;have hk_:=hF2 w_ hS_;first | (go_at_call 176;refine (isLevel_is HLv (HX.out w_ hS_) hosl).mono ?_;first | (rintro e w_ ⟨rfl,rfl⟩;refine ⟨?_,Below.refl _ _⟩;with_reducible rfl) | (rintro e w_ ⟨rfl,hb_⟩;refine ⟨?_,hb_⟩;with_reducible rfl)) | (go_at_call 197;refine (ahead_is HQ g (HGv.out w_ hS_)).mono ?_;first | (rintro e w_ ⟨rfl,rfl⟩;refine ⟨?_,Below.refl _ _⟩;with_reducible rfl) | (rintro e w_ ⟨rfl,hb_⟩;refine ⟨?_,hb_⟩;with_reducible rfl)));simp only [Act.put,sA,sB,sC]))
       refine Rf.Steps.nil (by kernel_rfl) ?_
       intro w4 hb6
       clear d4 d5 d6 d7
       go_wp2
       go_roundw
       case rel=>exact ⟨k+1,by omega,by go_num,nx hbw hb6,HN2.out⟩
       case measure=>simp [intOf];omega
    ·obtain rfl:k=n:=by omega
     have hrt:=HT.out
     rw [HN.out,List.take_length] at hrt
     have HZ:Hid (r=nodB (flat l)):=lH (by rw [← HR.out];exact rgt_all HSd.out hrt)
     have hll:=HL.out wo hbo
     rw [← HN.out] at hll
     have HLo:=lH hll
     clear hrt hll
     go_wp2_with fail
     refine (ords_big B l _ wo HLo.out (HBl.out wo hbo) (by rw [← HN.out];exact hm) HFl.out).mono ?_
     rintro e w5 ⟨y,rfl,hb5,hy⟩
     go_wp2_with fail
     refine (ownIds_any B (flat l) y w5 hy HFl.out).mono ?_
     rintro e w6 ⟨rfl,hb6⟩
     go_wp2
     go_ret
     exact ⟨ret_bool HZ.out.symm,nx hbo (nx hb5 hb6)⟩
 ·have hr:=right_side (l:=l) hs
  rw [hr]
  have d1:(s != 1)=true:=by simp;omega
  have d2:(s != 2)=true:=by simp;omega
  clear hs hr h
  go_enter Tryz.func145,Tryz.ntmps145
  go_wp2
  go_ret
  exact ⟨rfl,Below.refl _ _⟩
def cntA (s p:Int) (l:List Lv):Nat:=(l.takeWhile (fun v=>ahead s v.1 p)).length
def Env (B:Bs) (s p:Int) (l:List Lv) (p8 p2 p3:Nat) (u:World):Prop :=
 ∃ f v,(Ahd s f u∧u.cell? ⟨p8,0,none⟩=some f∧p8<u.heap.size)∧(LL B l v u∧u.cell? ⟨p2,0,none⟩=some v∧p2<u.heap.size)∧u.cell? ⟨p3,3,none⟩=some (.int .i64 p)∧p3<u.heap.size
theorem Env.stays {B:Bs} {s p:Int} {l:List Lv} {p8 p2 p3:Nat} {u u':World} (h:Env B s p l p8 p2 p3 u) (hb:Below u.heap.size u u'):Env B s p l p8 p2 p3 u':=by
 obtain ⟨f,v,⟨h1,h2,h3⟩,⟨h4,h5,h6⟩,h7,h8⟩:=h
 exact ⟨f,v,⟨h1.stays hb,(hb.cell (p:=⟨p8,0,none⟩) h3).trans h2,Nat.lt_of_lt_of_le h3 hb.size⟩,⟨Is.stays eL 106 h4 hb,(hb.cell (p:=⟨p2,0,none⟩) h6).trans h5,Nat.lt_of_lt_of_le h6 hb.size⟩,(hb.cell (p:=⟨p3,3,none⟩) h8).trans h7,Nat.lt_of_lt_of_le h8 hb.size⟩
theorem put1_any (B:Bs) (s p:Int) (l:List Lv) (p8 p2 p3:Nat) (i:Nat) (hi:i<l.length) (hm:l.length≤1000000) (w:World) (h:Env B s p l p8 p2 p3 w) :
  Calls Tryz.prog 209 #[.int .i64 i,.pointer (some ⟨p8,0,none⟩),.pointer (some ⟨p2,0,none⟩),.pointer (some ⟨p3,0,none⟩)] w fun e w'=>e=.returned (.bool (!ahead s l[i].1 p))∧Below w.heap.size w w':=by
 obtain ⟨f,v,⟨⟨g,rfl,hg,hgc⟩,h2,h3⟩,⟨h4,h5,h6⟩,h7,h8⟩:=h
 rcases h4.cases with ⟨rfl,_⟩ | ⟨hne,b,off,c,rfl,hat⟩
 ·cases hi
 obtain ⟨x,q0,q1,hx⟩:=atL hat i hi
 have hbb:=hat.1
 obtain ⟨pp,hpp⟩:∃ pp,(l[i]'hi).1=pp:=⟨_,rfl⟩
 rw [hpp] at q0 ⊢
 obtain ⟨r,hr⟩:∃ r,ahead s pp p=r:=⟨_,rfl⟩
 rw [hr]
 have HQ:=lH hr
 have hF:∀ u,Below w.heap.size w u→(u.cell? ⟨p8,0,none⟩=some (.func (.func 197) #[] #[.pointer (some ⟨g,0,none⟩)])∧u.cell? ⟨p2,0,none⟩=some (.slice (some ⟨b,off,none⟩) l.length c))∧u.cell? ⟨p3,3,none⟩=some (.int .i64 p)∧u.cell? ⟨b,off+i*2,none⟩=some (.int .i64 pp):=fun u hu =>
  ⟨⟨(hu.cell (p:=⟨p8,0,none⟩) h3).trans h2,(hu.cell (p:=⟨p2,0,none⟩) h6).trans h5⟩,(hu.cell (p:=⟨p3,3,none⟩) h8).trans h7,(hu.cell (p:=⟨b,off+i*2,none⟩) hbb).trans q0⟩
 have HG:=lH (show ∀ u,Below w.heap.size w u→g<u.heap.size∧u.cell? ⟨g,0,none⟩=some (.int .i64 s) from fun u hu=>⟨Nat.lt_of_lt_of_le hg hu.size,(hu.cell (p:=⟨g,0,none⟩) hg).trans hgc⟩)
 have hi2:(i:Int)<l.length:=by omega
 clear h2 h3 h4 h5 h6 h7 h8 hat q0 q1 hx hg hgc hr hpp
 go_enter Tryz.func209,Tryz.ntmps209
 go_wp2
 refine Rf.rg [0,1,2,3,4,5,6,7,8,9,10] ?_
 repeat (first | (refine Rf.Steps.sk ?_;simp only [Act.put,sA,sB,sC]) | (refine Rf.Steps.pu (v:=?_) ?_ ?_;rotate_left;(intro w_ hS_;have hk_:=hF w_ hS_;go_simp<;>with_reducible rfl);simp only [Act.put,sA,sB,sC]) | (refine Rf.Steps.ca (v:=?_) (f:=?_) (args:=?_) ?_ ?_ ?_;rotate_left 3;(intro w_ hS_;have hk_:=hF w_ hS_;go_simp<;>first | with_reducible rfl | (constructor<;>with_reducible rfl));(intro w_ hS_;have hk_:=hF w_ hS_;first | (go_at_call 197;refine (ahead_is HQ g (HG.out w_ hS_)).mono ?_;first | (rintro e w_ ⟨rfl,rfl⟩;refine ⟨?_,Below.refl _ _⟩;with_reducible rfl) | (rintro e w_ ⟨rfl,hb_⟩;refine ⟨?_,hb_⟩;with_reducible rfl)));simp only [Act.put,sA,sB,sC]))
 refine Rf.Steps.nil (by kernel_rfl) ?_
 intro w4 hb6
 go_wp2
 go_ret
 exact ⟨rfl,hb6⟩
theorem cntA_of {s p:Int}:∀ {l:List Lv} {k:Nat},k≤l.length→(∀ t (h:t<l.length),t<k→ahead s l[t].1 p=true)→(∀ t (h:t<l.length),k≤t→ahead s l[t].1 p=false)→cntA s p l=k
 | [],k,hk,_,_=>by simp at hk;subst hk;rfl
 | v :: r,0,_,_,h2=>by
  have:=h2 0 (by simp) (Nat.le_refl _)
  simp only [List.getElem_cons_zero] at this
  unfold cntA
  rw [List.takeWhile_cons,this];rfl
 | v :: r,k+1,hk,h1,h2=>by
  have h0:=h1 0 (by simp) (by omega)
  simp only [List.getElem_cons_zero] at h0
  have:=cntA_of (s:=s) (p:=p) (l:=r) (k:=k) (by simpa using hk) (fun t h ht=>by have:=h1 (t+1) (by simpa using h) (by omega);simpa using this) (fun t h ht=>by have:=h2 (t+1) (by simpa using h) (by omega);simpa using this)
  unfold cntA at this ⊢
  rw [List.takeWhile_cons,h0]
  simp [this]
def SrI (s p:Int) (l:List Lv) (lo hi:Nat):Prop:=(∀ t (h:t<l.length),t<lo→ahead s l[t].1 p=true)∧(∀ t (h:t<l.length),hi≤t→ahead s l[t].1 p=false)
theorem ahead_mono {s p:Int} {l:List Lv} (hr:l.Pairwise (fun a b=>ahead s a.1 b.1=true)) {i j:Nat} (hij:i≤j) (hj:j<l.length) (h:ahead s l[j].1 p=true):ahead s (l[i]'(by omega)).1 p=true:=by
 by_cases e:i=j
 ·subst e;exact h
 ·exact ahead_trans (List.pairwise_iff_getElem.1 hr i j (by omega) hj (by omega)) h
theorem SrI.lo {s p:Int} {l:List Lv} {lo hi m:Nat} (hr:l.Pairwise (fun a b=>ahead s a.1 b.1=true)) (h:SrI s p l lo hi) (hm:m<l.length) (ha:ahead s l[m].1 p=true):SrI s p l (m+1) hi :=
 ⟨fun t ht htm=>ahead_mono hr (show t≤m by omega) hm ha,h.2⟩
theorem SrI.hi {s p:Int} {l:List Lv} {lo hi m:Nat} (hr:l.Pairwise (fun a b=>ahead s a.1 b.1=true)) (h:SrI s p l lo hi) (hm:m<l.length) (ha:ahead s l[m].1 p=false):SrI s p l lo m :=
 ⟨h.1,fun t ht htm=>by
  cases e:ahead s l[t].1 p
  ·rfl
  ·rw [ahead_mono hr htm ht e] at ha;cases ha⟩
theorem put1_is {B:Bs} {s p:Int} {l:List Lv} {p8 p2 p3 i:Nat} {r:Bool} (hi:i<l.length) (hr:Hid ((!ahead s l[i].1 p)=r)) (hm:l.length≤1000000) {w:World} (h:Env B s p l p8 p2 p3 w) :
  Calls Tryz.prog 209 #[.int .i64 i,.pointer (some ⟨p8,0,none⟩),.pointer (some ⟨p2,0,none⟩),.pointer (some ⟨p3,0,none⟩)] w fun e w'=>e=.returned (.bool r)∧Below w.heap.size w w':=by
 rw [← hr.out];exact put1_any B s p l p8 p2 p3 i hi hm w h
theorem search_any (B:Bs) (s p:Int) (l:List Lv) (p8 p2 p3:Nat) (hm:l.length≤1000000) (w:World) (h:Env B s p l p8 p2 p3 w) (hr:l.Pairwise (fun a b=>ahead s a.1 b.1=true)) :
  Calls Tryz.prog 208 #[.int .i64 (l.length:Nat),.func (.func 209) #[] #[.pointer (some ⟨p8,0,none⟩),.pointer (some ⟨p2,0,none⟩),.pointer (some ⟨p3,0,none⟩)]] w fun e w'=>e=.returned (.int .i64 (cntA s p l:Nat))∧Below w.heap.size w w':=by
 obtain ⟨n,hn⟩:∃ n,n=l.length:=⟨_,rfl⟩
 obtain ⟨cnt,hc⟩:∃ c,cntA s p l=c:=⟨_,rfl⟩
 have HE:=lH (show ∀ u,Below w.heap.size w u→Env B s p l p8 p2 p3 u from fun u hu=>h.stays hu)
 have HR:=lH hr
 have HML:=lH hm
 rw [← hn] at hm ⊢
 rw [hc]
 have HN:=lH hn
 have HC:=lH hc
 clear h hr hn hc
 go_enter Tryz.func208,Tryz.ntmps208
 go_wp2
 go_loopg [5,6] n (fun kx s5 s6 wr=>∃ (lo hi:Nat),s5=.int .i64 lo∧s6=.int .i64 hi∧lo≤hi∧hi≤n∧hi - lo≤kx∧Below w.heap.size w wr∧SrI s p l lo hi)
 case atStart=>exact ⟨0,n,rfl,rfl,Nat.zero_le _,Nat.le_refl _,by omega,Below.refl _ _,fun t _ ht=>absurd ht (Nat.not_lt_zero _),fun t h1 h2=>by have:=HN.out;omega⟩
 case round =>
  obtain ⟨lo,hi,rfl,rfl,hlh,hin,hg,hb,hI⟩:=hrel
  have I:=lH hI
  clear hI
  by_cases hlt:lo<hi
  ·have hmid:(lo+hi) / 2<l.length:=by rw [← HN.out];omega
   cases hp:ahead s (l[(lo+hi) / 2]'hmid).1 p
   ·have HP:Hid ((!ahead s (l[(lo+hi) / 2]'hmid).1 p)=true):=lH (by rw [hp];rfl)
    have I2:=lH (I.out.hi HR.out hmid hp)
    have hcall:=put1_is hmid HP HML.out (HE.out _ hb)
    rw [show (((lo+hi) / 2:Nat):Int)=((lo:Int)+(hi:Int)) / 2 by omega] at hcall
    clear hp
    go_wp2_with fail
    refine hcall.mono ?_
    rintro e w' ⟨rfl,hb1⟩
    clear hcall
    go_wp2
    go_roundg ((lo+hi) / 2 - lo)
    case measure=>omega
    case rel=>exact ⟨lo,(lo+hi) / 2,rfl,by rw [show ((lo:Int)+(hi:Int)) / 2=(((lo+hi) / 2:Nat):Int) by omega],by omega,by omega,Nat.le_refl _,nx hb hb1,I2.out⟩
   ·have HP:Hid ((!ahead s (l[(lo+hi) / 2]'hmid).1 p)=false):=lH (by rw [hp];rfl)
    have I2:=lH (I.out.lo HR.out hmid hp)
    have hcall:=put1_is hmid HP HML.out (HE.out _ hb)
    rw [show (((lo+hi) / 2:Nat):Int)=((lo:Int)+(hi:Int)) / 2 by omega] at hcall
    clear hp
    go_wp2_with fail
    refine hcall.mono ?_
    rintro e w' ⟨rfl,hb1⟩
    clear hcall
    go_wp2
    go_roundg (hi - ((lo+hi) / 2+1))
    case measure=>omega
    case rel=>exact ⟨(lo+hi) / 2+1,hi,by rw [show ((lo:Int)+(hi:Int)) / 2+1=(((lo+hi) / 2+1:Nat):Int) by omega],rfl,by omega,hin,Nat.le_refl _,nx hb hb1,I2.out⟩
  ·obtain rfl:hi=lo:=by omega
   have HZ:Hid (cnt=hi):=lH (by rw [← HC.out];exact cntA_of (by rw [← HN.out];exact hin) I.out.1 I.out.2)
   go_wp2
   go_ret
   exact ⟨ret_int (by rw [HZ.out]),hb⟩
end Go.Proofs.YtjhocpcpkemcaaaGreat.Le
namespace Go.Proofs.YtjhocpcpkemcaaaGreat.Le
open Go.RowKit
open Rw
open Da
open Ro
def insA {α:Type} (i:Nat) (x:α) (l:List α):List α:=l.take i++[x]++l.drop i
theorem insA_len {α:Type} {i:Nat} {x:α} {l:List α} (h:i≤l.length):(insA i x l).length=l.length+1:=by
 unfold insA;simp only [List.length_append,List.length_take,List.length_drop,List.length_singleton];omega
theorem insA_get {α:Type} {i:Nat} {x:α} {l:List α} (h:i≤l.length) (j:Nat):(insA i x l)[j]?=if j<i then l[j]? else if j=i then some x else l[j - 1]?:=by
 unfold insA
 rw [List.append_assoc]
 by_cases h1:j<i
 ·rw [if_pos h1,List.getElem?_append_left (by rw [List.length_take];omega),List.getElem?_take,if_pos h1]
 ·rw [if_neg h1,List.getElem?_append_right (by rw [List.length_take];omega),List.length_take,Nat.min_eq_left h]
  by_cases h2:j=i
  ·subst h2;rw [if_pos rfl,Nat.sub_self];rfl
  ·rw [if_neg h2,List.getElem?_append_right (by simp;omega),List.length_singleton,List.getElem?_drop]
   congr 1;omega
theorem putL_at {s:Int} {o:Od}:∀ {l:List Lv},putL s o l=if h:cntA s (opr o) l<l.length∧(l[cntA s (opr o) l]?.map (·.1))=some (opr o) then l.set (cntA s (opr o) l) (opr o,(l[cntA s (opr o) l]'h.1).2++[o]) else insA (cntA s (opr o) l) (opr o,[o]) l
 | []=>by simp [putL,insA]
 | v :: r=>by
  rw [putL]
  by_cases e1:v.1=opr o
  ·have h0:cntA s (opr o) (v :: r)=0:=by unfold cntA;rw [List.takeWhile_cons,e1,ahead_irrefl];rfl
   rw [if_pos e1,dif_pos ⟨by rw [h0];simp,by rw [h0];simp [e1]⟩]
   simp only [h0,List.set_cons_zero,List.getElem_cons_zero,e1]
  ·rw [if_neg e1]
   by_cases e2:ahead s (opr o) v.1=true
   ·have h0:cntA s (opr o) (v :: r)=0:=by unfold cntA;rw [List.takeWhile_cons,ahead_asymm e2];rfl
    rw [if_pos e2,dif_neg (by rintro ⟨_,h⟩;rw [h0] at h;simp at h;exact e1 h)]
    simp [h0,insA]
   ·have e3:ahead s v.1 (opr o)=true:=by
     cases e:ahead s v.1 (opr o)
     ·exact absurd (ahead_tri e (by simpa using e2)) e1
     ·rfl
    have h0:cntA s (opr o) (v :: r)=cntA s (opr o) r+1:=by unfold cntA;rw [List.takeWhile_cons,e3];simp
    have ih:=putL_at (s:=s) (o:=o) (l:=r)
    rw [if_neg e2]
    by_cases hc:cntA s (opr o) r<r.length∧(r[cntA s (opr o) r]?.map (·.1))=some (opr o)
    ·rw [dif_pos hc] at ih
     rw [dif_pos ⟨by rw [h0];simpa using hc.1,by rw [h0];simpa using hc.2⟩,ih]
     simp only [h0,List.set_cons_succ,List.getElem_cons_succ]
    ·rw [dif_neg hc] at ih
     rw [dif_neg (by rintro ⟨h1,h2⟩;rw [h0] at h1 h2;exact hc ⟨by simpa using h1,by simpa using h2⟩),ih,h0]
     simp [insA]
theorem cntA_le (s p:Int) (l:List Lv):cntA s p l≤l.length:=by
 unfold cntA;exact (List.takeWhile_prefix _).length_le
theorem putL_ins {s:Int} {o:Od} {l:List Lv} {i:Nat} (hi:cntA s (opr o) l=i) (h:∀ (hl:i<l.length),l[i].1≠opr o):putL s o l=insA i (opr o,[o]) l:=by
 subst hi
 rw [putL_at,dif_neg]
 rintro ⟨h1,h2⟩
 rw [List.getElem?_eq_getElem h1] at h2
 simp only [Option.map_some,Option.some.injEq] at h2
 exact h h1 h2
theorem putL_set {s:Int} {o:Od} {l:List Lv} {i:Nat} (hi:cntA s (opr o) l=i) (hl:i<l.length) (he:l[i].1=opr o):putL s o l=l.set i (opr o,l[i].2++[o]):=by
 subst hi
 rw [putL_at,dif_pos ⟨hl,by rw [List.getElem?_eq_getElem hl];simp [he]⟩]
theorem insA_set {α:Type} {i:Nat} {x y:α} {l:List α} (h:i≤l.length):(insA i x l).set i y=insA i y l:=by
 unfold insA
 rw [List.append_assoc,List.append_assoc,List.set_append_right _ _ (by rw [List.length_take];omega),List.length_take,Nat.min_eq_left h,Nat.sub_self]
 rfl
theorem Mine.ins {B:Bs} {Bo:Nat} {l:List Lv} {hs:List Hw} {w:World} (h:Mine B Bo l hs w) {i:Nat} (hi:i≤l.length) (p:Int):Mine B Bo (insA i (p,[]) l) (insA i (p,none,0,0) hs) w:=by
 have hl:=h.len
 refine ⟨by rw [insA_len hi,insA_len (by omega),hl],fun j x y hx hy=>?_,fun j k y z g hjk hy hz hyg hzg=>?_⟩
 ·rw [insA_get hi] at hx
  rw [insA_get (by omega)] at hy
  by_cases h1:j<i
  ·rw [if_pos h1] at hx hy;exact h.own j x y hx hy
  ·rw [if_neg h1] at hx hy
   by_cases h2:j=i
   ·rw [if_pos h2] at hx hy
    obtain rfl:=Option.some.inj hx
    obtain rfl:=Option.some.inj hy
    exact ⟨rfl,Own.nil _ _ _⟩
   ·rw [if_neg h2] at hx hy;exact h.own _ x y hx hy
 ·rw [insA_get (by omega)] at hy hz
  have hno:∀ {q:Hw} {n:Nat},(if n<i then hs[n]? else if n=i then some (p,none,0,0) else hs[n - 1]?)=some q→(hv q).ownBlock=some g→n≠i∧hs[if n<i then n else n - 1]?=some q:=by
   intro q n hq hg
   by_cases h1:n<i
   ·rw [if_pos h1] at hq ⊢;exact ⟨by omega,hq⟩
   ·rw [if_neg h1] at hq ⊢
    by_cases h2:n=i
    ·rw [if_pos h2] at hq
     obtain rfl:=Option.some.inj hq
     cases hg
    ·rw [if_neg h2] at hq;exact ⟨h2,hq⟩
  obtain ⟨n1,a1⟩:=hno hy hyg
  obtain ⟨n2,a2⟩:=hno hz hzg
  refine h.apart _ _ y z g ?_ a1 a2 hyg hzg
  split<;>split<;>omega
theorem appAt {B:Bs} {Bo G C:Nat} {L:List Lv} {ys:List Hw} {W:World} (hB:B.le Bo) (hBo:Bo≤W.heap.size) (hG:Bo≤G) (hrow:RowF G C ys W) (hM:Mine B Bo L ys W) {i:Nat} {x:Lv} {y:Hw} (hx:L[i]?=some x) (hy:ys[i]?=some y) (hm:x.2.length≤1000000) (o:Od) :
  ∃ a' n' c' w6,appRun Tryz.prog 71 71 (hv y) (.slice (some ⟨W.heap.size,0,none⟩) 1 1) (W.alloc (.cells #[.int .i64 o.1,.int .i64 o.2.1,.int .i64 o.2.2.1,.int .i64 o.2.2.2.1,.int .i64 o.2.2.2.2] 74)).drew=.ok (.slice a' n' c') w6∧Below Bo W w6∧G<w6.heap.size ∧
   (w6.cell? ⟨G,i*2+1,none⟩=some (hv y)∧w6.frozen? ⟨G,i*2+1,none⟩=false) ∧
   LvS B (L.set i (x.1,x.2++[o])) (ys.set i (y.1,a',n',c')) (w6.setCell ⟨G,i*2+1,none⟩ (.slice a' n' c'))∧RowF G C (ys.set i (y.1,a',n',c')) (w6.setCell ⟨G,i*2+1,none⟩ (.slice a' n' c')):=by
 have hb1:Below W.heap.size W (W.alloc (.cells #[.int .i64 o.1,.int .i64 o.2.1,.int .i64 o.2.2.1,.int .i64 o.2.2.2.1,.int .i64 o.2.2.2.2] 74)).drew:=(below1 W _).drew
 have hz1:(W.alloc (.cells #[.int .i64 o.1,.int .i64 o.2.1,.int .i64 o.2.2.1,.int .i64 o.2.2.2.1,.int .i64 o.2.2.2.2] 74)).drew.heap.size=W.heap.size+1:=by simp
 have hM1:=hM.stays hb1
 have hr1:=hrow.stays hb1
 have hsrc:Is eO 74 B [o] (.slice (some ⟨W.heap.size,0,none⟩) 1 1) (W.alloc (.cells #[.int .i64 o.1,.int .i64 o.2.1,.int .i64 o.2.2.1,.int .i64 o.2.2.2.1,.int .i64 o.2.2.2.2] 74)).drew :=
  Is.stays eO 74 (Is.one (e:=eO) (x:=o) (cs:=cellsO o) (hB.mono hBo) rfl) (Below.refl _ _).drew
 obtain ⟨v',w',hrun,hown,hg,hbl,hkp⟩:=Own.append elemO 71 typesO hB (by rw [hz1];omega) (hM1.own i x y hx hy).2 hsrc (by simp only [List.length_singleton];omega) (by omega)
 obtain ⟨a',n',c',rfl⟩:∃ a n c,v'=.slice a n c:=by obtain ⟨a,c,h⟩:=(hown.is (by decide) hB).len;exact ⟨a,_,c,h⟩
 have hlow:=hbl _ W (Nat.le_refl _) (hb1.mono hBo)
 have hrow6:RowF G C ys w':=by
  obtain ⟨cur,hgg,_⟩:=hr1.ex
  exact hr1.block (((hkp [106] (by decide)).block _ _ hgg (.inr ⟨_,_,_,rfl,by simp,fun hx=>by have:=hB.2 _ hx;omega⟩)).trans hgg.symm)
 obtain ⟨_,c1,_,f1⟩:=rowF_at hrow6 hy
 have hset:=hrow6.setCell (i:=i) (j:=1) (x:=y) (y:=(y.1,a',n',c')) (u:=.slice a' n' c') hy (by decide) rfl
 have hgr:=setCell_grown w' G (i*2+1) (.slice a' n' c')
 have hk2:Keeps B [74] w' (w'.setCell ⟨G,i*2+1,none⟩ (.slice a' n' c')):=hrow6.keeps (by have:=hB.1;omega) (by decide) hgr
 refine ⟨a',n',c',w',hrun,hlow,hrow6.lt,⟨c1,f1⟩,⟨by rw [List.length_set,List.length_set,hM.len],fun j u z hu hz=>?_⟩,hset⟩
 by_cases e:i=j
 ·subst e
  have hil:i<L.length:=(List.getElem?_eq_some_iff.1 hx).1
  have hiy:i<ys.length:=(List.getElem?_eq_some_iff.1 hy).1
  rw [List.getElem?_set_self hil] at hu
  rw [List.getElem?_set_self hiy] at hz
  obtain rfl:=Option.some.inj hu
  obtain rfl:=Option.some.inj hz
  exact ⟨(hM.own i x y hx hy).1,Is.keep eO 74 (hown.is (by decide) hB) hk2⟩
 ·rw [List.getElem?_set_ne e] at hu hz
  obtain ⟨h1,h2⟩:=hM1.own j u z hu hz
  refine ⟨h1,Is.keep eO 74 ((ownO_grown h2 hg fun g hg1 hg2=>?_).is (by decide) hB) hk2⟩
  rcases Nat.lt_or_gt_of_ne e with hi | hi
  ·exact hM.apart i j y z g hi hy hz hg2 hg1
  ·exact hM.apart j i z y g hi hz hy hg1 hg2
theorem rowF_ll {B:Bs} {G C Bo:Nat} {L:List Lv} {ys:List Hw} {w:World} (hB:B.le Bo) (hG:Bo≤G) (hC:C≤maxLen) (h:LvS B L ys w) (hr:RowF G C ys w):LL B L (.slice (some ⟨G,0,none⟩) ys.length C) w :=
 h.ll ((hr.own (B:=B) hG hC).is (by decide) hB)
theorem row_one (w:World) (p:Int):RowF w.heap.size 1 [(p,none,0,0)] (w.alloc (.cells #[.int .i64 p,.slice none 0 0] 106)):=by
 refine ⟨⟨[.int .i64 p,.slice none 0 0],heap_alloc_new w _,rfl,fun i x hx j u hu=>?_⟩,by simp⟩
 cases i with
 | zero =>
  simp at hx
  subst hx
  show _=_
  rw [Nat.zero_mul,Nat.zero_add]
  exact hu
 | succ i=>simp at hx
end Go.Proofs.YtjhocpcpkemcaaaGreat.Le
