/- A laying of the shelf in plain words. -/
import Derived.Test.YthecinmekoaphaaGreatQbZZ
import Derived.Shelf.Sort.Plain
import Derived.Shelf.Slices.CompactI
import Derived.Shelf.Slices.In.SortNone
import Derived.Test.YthecinmekoaphaaGreatProg
import Derived.Test.YthecinmekoaphaaGreatQbAU
import Derived.Lib.RowBridge
import Derived.Laws.MakeOwn
set_option linter.unusedVariables false
set_option maxRecDepth 16000
set_option maxHeartbeats 32000000
namespace Go.Proofs
open Go.Shelf
def Tryz.sortL_ren : Go.Shelf.Ren:=⟨fun | 189=>131 | 125=>147 | 257=>146 | 128=>162 | 129=>163 | 294=>153 | 295=>154 | 296=>155 | 297=>156 | 298=>157 | 299=>158 | 216=>159 | 300=>160 | 301=>161 | 328=>167 | 329=>168 | 330=>169 | 331=>170 | 332=>171 | 215=>135 | 343=>180 | n=>n,fun | 28=>152 | 3=>3 | 46=>163 | 0=>0 | 51=>180 | 53=>51 | 4=>4 | 183=>173 | 182=>172 | 131=>177 | 5=>5 | 9=>9 | 218=>185 | 222=>189 | 228=>196 | 229=>79 | n=>n,fun | n=>n⟩
theorem Tryz.sortL : Go.Proofs.Lays.n189 Tryz.prog Tryz.sortL_ren:={
 mixed:=by kernel_rfl
 f125:=Tryz.func147.trans (congrArg some (by kernel_rfl))
 f128:=Tryz.func162.trans (congrArg some (by kernel_rfl))
 f129:=Tryz.func163.trans (congrArg some (by kernel_rfl))
 f189:=Tryz.func131.trans (congrArg some (by kernel_rfl))
 f215:=Tryz.func135.trans (congrArg some (by kernel_rfl))
 f216:=Tryz.func159.trans (congrArg some (by kernel_rfl))
 f257:=Tryz.func146.trans (congrArg some (by kernel_rfl))
 f294:=Tryz.func153.trans (congrArg some (by kernel_rfl))
 f295:=Tryz.func154.trans (congrArg some (by kernel_rfl))
 f296:=Tryz.func155.trans (congrArg some (by kernel_rfl))
 f297:=Tryz.func156.trans (congrArg some (by kernel_rfl))
 f298:=Tryz.func157.trans (congrArg some (by kernel_rfl))
 f299:=Tryz.func158.trans (congrArg some (by kernel_rfl))
 f300:=Tryz.func160.trans (congrArg some (by kernel_rfl))
 f301:=Tryz.func161.trans (congrArg some (by kernel_rfl))
 f328:=Tryz.func167.trans (congrArg some (by kernel_rfl))
 f329:=Tryz.func168.trans (congrArg some (by kernel_rfl))
 f330:=Tryz.func169.trans (congrArg some (by kernel_rfl))
 f331:=Tryz.func170.trans (congrArg some (by kernel_rfl))
 f332:=Tryz.func171.trans (congrArg some (by kernel_rfl))
 f343:=Tryz.func180.trans (congrArg some (by kernel_rfl))
 t0:=Tryz.underlying0
 a0:=Tryz.isAgg0
 z0:=Tryz.sizeOf0
 v0:=Tryz.zeroValue0
 t3:=Tryz.underlying3
 a3:=Tryz.isAgg3
 z3:=Tryz.sizeOf3
 v3:=Tryz.zeroValue3
 t4:=Tryz.underlying4
 a4:=Tryz.isAgg4
 z4:=Tryz.sizeOf4
 v4:=Tryz.zeroValue4
 t5:=Tryz.underlying5
 a5:=Tryz.isAgg5
 z5:=Tryz.sizeOf5
 v5:=Tryz.zeroValue5
 t9:=Tryz.underlying9
 a9:=Tryz.isAgg9
 z9:=Tryz.sizeOf9
 v9:=Tryz.zeroValue9
 t28:=Tryz.underlying152
 a28:=Tryz.isAgg152
 z28:=Tryz.sizeOf152
 v28:=Tryz.zeroValue152
 t46:=Tryz.underlying163
 a46:=Tryz.isAgg163
 z46:=Tryz.sizeOf163
 v46:=Tryz.zeroValue163
 t51:=Tryz.underlying180
 a51:=Tryz.isAgg180
 z51:=Tryz.sizeOf180
 v51:=Tryz.zeroValue180
 t53:=Tryz.underlying51
 a53:=Tryz.isAgg51
 z53:=Tryz.sizeOf51
 v53:=Tryz.zeroValue51
 t131:=Tryz.underlying177
 a131:=Tryz.isAgg177
 z131:=Tryz.sizeOf177
 v131:=Tryz.zeroValue177
 t182:=Tryz.underlying172
 a182:=Tryz.isAgg172
 z182:=Tryz.sizeOf172
 v182:=Tryz.zeroValue172
 t183:=Tryz.underlying173
 a183:=Tryz.isAgg173
 z183:=Tryz.sizeOf173
 v183:=Tryz.zeroValue173
 t218:=Tryz.underlying185
 a218:=Tryz.isAgg185
 z218:=Tryz.sizeOf185
 v218:=Tryz.zeroValue185
 t222:=Tryz.underlying189
 a222:=Tryz.isAgg189
 z222:=Tryz.sizeOf189
 v222:=Tryz.zeroValue189
 t228:=Tryz.underlying196
 a228:=Tryz.isAgg196
 z228:=Tryz.sizeOf196
 v228:=Tryz.zeroValue196
 t229:=Tryz.underlying79
 a229:=Tryz.isAgg79
 z229:=Tryz.sizeOf79
 v229:=Tryz.zeroValue79 }
def Tryz.cmpL_ren : Go.Shelf.Ren:=⟨fun | 20=>132 | n=>n,fun | 22=>152 | 3=>3 | 4=>4 | 0=>0 | n=>n,fun | n=>n⟩
theorem Tryz.cmpL : Go.Proofs.Lays2.n20 Tryz.prog Tryz.cmpL_ren:={
 mixed:=by kernel_rfl
 f20:=Tryz.func132.trans (congrArg some (by kernel_rfl))
 t0:=Tryz.underlying0
 a0:=Tryz.isAgg0
 z0:=Tryz.sizeOf0
 v0:=Tryz.zeroValue0
 t3:=Tryz.underlying3
 a3:=Tryz.isAgg3
 z3:=Tryz.sizeOf3
 v3:=Tryz.zeroValue3
 t4:=Tryz.underlying4
 a4:=Tryz.isAgg4
 z4:=Tryz.sizeOf4
 v4:=Tryz.zeroValue4
 t22:=Tryz.underlying152
 a22:=Tryz.isAgg152
 z22:=Tryz.sizeOf152
 v22:=Tryz.zeroValue152
 i3:=by kernel_rfl }
end Go.Proofs
namespace Go.Proofs.YthecinmekoaphaaGreat.Le
open Go.RowKit
open Rw
open Da
theorem compact_nodup {zs : List Int} (hs : zs.Pairwise (·≤·)) : (Lib.compact zs).length=zs.length ↔ zs.Nodup:=by
 have hget : ∀ j (h : j<zs.length),zs.toArray[j]! = zs[j]:=fun j h=>by simp [h]
 constructor
 ·intro h
  have hall : ∀ j,j<zs.length→Lib.keeps zs.toArray j=true:=by
   unfold Lib.compact Lib.compactUpTo at h
   rw [List.length_map] at h
   have h2 : (List.filter (Lib.keeps zs.toArray) (List.range zs.length)).length=(List.range zs.length).length:=by rw [h,List.length_range]
   have h3:=List.length_filter_eq_length_iff.1 h2
   exact fun j hj=>h3 j (List.mem_range.2 hj)
  have hlt : zs.Pairwise (·<·):=by
   rw [List.pairwise_iff_getElem] at hs ⊢
   intro i j hi hj hij
   have h1:=hall j hj
   unfold Lib.keeps at h1
   have h2:=of_decide_eq_true h1
   rcases h2 with h2 | h2
   ·omega
   ·rw [hget j hj,hget (j - 1) (by omega)] at h2
    have h3:=hs (j - 1) j (by omega) hj (by omega)
    have h4 : zs[i]≤zs[j - 1]:=by
     rcases Nat.lt_or_ge i (j - 1) with h | h
     ·exact hs i (j - 1) hi (by omega) h
     ·have e : i=j - 1:=by omega
      subst e;exact Int.le_refl _
    omega
  exact hlt.imp (fun h=>by omega)
 ·intro h
  rw [Lib.compact_all]
  intro j hj
  by_cases h0 : j=0
  ·subst h0;simp [Lib.keeps]
  ·refine Lib.keeps_pos ?_
   rw [hget j hj,hget (j - 1) (by omega)]
   exact fun e=>(List.pairwise_iff_getElem.1 h) (j - 1) j (by omega) hj (by omega) e.symm
def nodB (os : List Od) : Bool:=decide ((os.map oid).Nodup)
def Ints (g m : Nat) (f : Nat→Int) (w : World) : Prop:=g<w.heap.size∧∀ j,j<m→w.cell? ⟨g,j,none⟩=some (.int .i64 (f j))∧w.frozen? ⟨g,j,none⟩=false
theorem Ints.stays {g m : Nat} {f : Nat→Int} {w w' : World} (h : Ints g m f w) (hb : Below w.heap.size w w') : Ints g m f w' :=
 ⟨Nat.lt_of_lt_of_le h.1 hb.size,fun j hj=>⟨(hb.cell (p:=⟨g,j,none⟩) h.1).trans (h.2 j hj).1,(hb.frozen (p:=⟨g,j,none⟩) h.1).trans (h.2 j hj).2⟩⟩
theorem Ints.set {g m k : Nat} {f : Nat→Int} {x : Int} {w : World} (h : Ints g m f w) (hk : k<m) : Ints g m (fun j=>if j=k then x else f j) (w.setCell ⟨g,k,none⟩ (.int .i64 x)):=by
 refine ⟨by simpa using h.1,fun j hj=>⟨?_,by rw [World.frozen?_setCell];exact (h.2 j hj).2⟩⟩
 by_cases e : j=k
 ·subst e
  rw [World.cell?_setCell_same' _ _ _ (by rw [(h.2 j hj).1];rfl)];simp
 ·refine (World.cell?_setCell_other _ _ _ _ (by intro e2;exact e (by injection e2 with _ e3;exact e3.symm))).trans ?_
  simp only [e,if_false]
  exact (h.2 j hj).1
theorem Ints.congr {g m : Nat} {f f' : Nat→Int} {w : World} (h : Ints g m f w) (he : ∀ j,j<m→f j=f' j) : Ints g m f' w :=
 ⟨h.1,fun j hj=>by rw [← he j hj];exact h.2 j hj⟩
theorem Ints.holds {g : Nat} {zs : List Int} {w : World} (h : Ints g zs.length (fun j=>zs.getD j 0) w) : Go.Sort.Holds (Value.int .i64) w g 0 zs.toArray:=by
 intro j hj
 have hj2 : j<zs.length:=by simpa using hj
 rw [Nat.zero_add]
 refine ⟨?_,(h.2 j hj2).2⟩
 rw [(h.2 j hj2).1]
 simp [hj2]
theorem grown_putRow {w : World} {g off n : Nat} (d : Array Int) (os : Array Obj) : w.grownBy (Go.Sort.grow (Go.Sort.putRow (Value.int .i64) (Sort.ahead w n) g off d) os) (some g):=by
 refine ⟨rfl,rfl,rfl,by simp [Go.Sort.grow,Go.Sort.putRow,Go.Sort.mapBlock,Sort.ahead],fun k hk hne=>?_⟩
 rw [Go.Sort.heap_grow_old _ _ (by simpa [Sort.ahead] using hk)]
 have : g≠k:=fun e=>hne (by rw [e])
 simp [Go.Sort.putRow,Go.Sort.mapBlock,Sort.ahead,Array.getElem?_modify,this]
theorem ints_putRow {w : World} {g n : Nat} {zs ss : List Int} (os : Array Obj) (h : Ints g zs.length (fun j=>zs.getD j 0) w) (hl : ss.length=zs.length) : Ints g zs.length (fun j=>ss.getD j 0) (Go.Sort.grow (Go.Sort.putRow (Value.int .i64) (Sort.ahead w n) g 0 ss.toArray) os):=by
 have hs : g<(Go.Sort.putRow (Value.int .i64) (Sort.ahead w n) g 0 ss.toArray).heap.size:=by simpa [Sort.ahead] using h.1
 have hH:=Go.Sort.holds_grow (Value.int .i64) _ os g 0 _ hs (Go.Sort.holds_putRow (Value.int .i64) (Sort.ahead w n) g 0 zs.toArray ss.toArray (Go.Sort.holds_ahead _ w n g 0 _ h.holds) (by simpa using hl))
 refine ⟨by simp [Go.Sort.grow];simp at hs;omega,fun j hj=>?_⟩
 have:=hH j (by simp;omega)
 rw [Nat.zero_add] at this
 refine ⟨?_,this.2⟩
 rw [this.1]
 have hjs : j<ss.length:=by omega
 simp [hjs]
def SortPost (zs : List Int) (g : Nat) (w : World) (e : Ending) (w' : World) : Prop:=∃ ss : List Int,e=.returned (.tuple #[])∧w.grownBy w' (some g)∧Ints g zs.length (fun j=>ss.getD j 0) w'∧ss.Perm zs∧ss.Pairwise (·≤·)∧ss.length=zs.length
theorem sort_any (g m : Nat) (zs : List Int) (w : World) (hm : m=zs.length) (h : Ints g m (fun j=>zs.getD j 0) w) (h6 : m≤1000000) : Calls Tryz.prog 131 #[.slice (some ⟨g,0,none⟩) m m] w (SortPost zs g w):=by
 subst hm
 refine (Any.slices_Sort_int Tryz.sortL g 0 zs.length zs w h.holds h.1 (by omega)).mono ?_
 rintro e w' ⟨rfl,n,os,rfl⟩
 have hl : (zs.mergeSort fun x y=>decide (x≤y)).length=zs.length:=List.length_mergeSort zs
 refine ⟨_,rfl,grown_putRow _ _,ints_putRow os h hl,List.mergeSort_perm zs _,?_,hl⟩
 have:=List.pairwise_mergeSort (le:=fun (x y : Int)=>decide (x≤y)) (fun a b c h1 h2=>by simp at *;omega) (fun a b=>by simp;omega) zs
 exact this.imp (fun h=>by simpa using h)
theorem compact_any (g m : Nat) (ss : List Int) (w : World) (hm : m=ss.length) (h : Ints g m (fun j=>ss.getD j 0) w) (h6 : m≤1000000) : Calls Tryz.prog 132 #[.slice (some ⟨g,0,none⟩) m m] w fun e w'=>e=.returned (.slice (some ⟨g,0,none⟩) (Lib.compact ss).length m)∧w.grownBy w' (some g):=by
 subst hm
 refine (Any.slices_Compact_int Tryz.cmpL g 0 ss.length ss w h.holds (by omega) (Nat.le_refl _)).mono ?_
 rintro e w' ⟨rfl,q,rfl⟩
 have:=grown_putRow (w:=w) (g:=g) (off:=0) (n:=q) (Lib.compact ss++List.replicate (ss.length - (Lib.compact ss).length) 0).toArray #[]
 rw [Go.Sort.grow_empty] at this
 exact ⟨rfl,this⟩
theorem nod_of {os : List Od} {ss : List Int} (hp : ss.Perm (os.map oid)) (hs : ss.Pairwise (·≤·)) : nodB os=decide ((Lib.compact ss).length=os.length):=by
 have hl : ss.length=os.length:=by rw [hp.length_eq,List.length_map]
 have h1:=compact_nodup hs
 rw [hl] at h1
 unfold nodB
 rw [Bool.eq_iff_iff,decide_eq_true_iff,decide_eq_true_iff,h1]
 exact hp.nodup_iff.symm
theorem infoIs : (Tryz.prog.info? 3).map (fun i=>(i.zero,i.size,i.bytes))=some (some (.int .i64 0),1,8):=by kernel_rfl
theorem make_ints (m : Nat) (hm : m≤1000000) (w : World) : (Instr.makeSlice 152 (.int .i64 m) (.int .i64 m)).run Tryz.prog w=.ok (.slice (some ⟨w.heap.size,0,none⟩) m m) (w.alloc (.cells (madeCells #[.int .i64 0] m) 3)):=by
 obtain ⟨i,h1,h2,h3,h4⟩:=info_parts infoIs
 have:=run_make (P:=Tryz.prog) w 152 3 i _ Tryz.underlying152 h1 h2 .i64 .i64 m m (by omega) (Int.le_refl _) (by rw [h4];omega) (by omega)
 rw [h3] at this
 simpa [Value.cells] using this
theorem ints_made (m : Nat) (w : World) : Ints w.heap.size m (fun _=>0) (w.alloc (.cells (madeCells #[.int .i64 0] m) 3)):=by
 refine ⟨by simp,fun j hj=>⟨?_,?_⟩⟩
 ·simp only [World.cell?,heap_alloc_new]
  simp [madeCells,hj]
  rw [Nat.mod_one];rfl
 ·simp only [World.frozen?,heap_alloc_new]
  simp
theorem ownIds_any (B : Bs) (os : List Od) (x : Value) (w : World) (h : OL B os x w) (hm : os.length≤1000000) :
  Calls Tryz.prog 130 #[x] w fun e w'=>e=.returned (.bool (nodB os))∧Below w.heap.size w w':=by
 obtain ⟨a2,c2,rfl,hel⟩:=h
 obtain ⟨m,hmm⟩ : ∃ m,m=os.length:=⟨_,rfl⟩
 have HE:=lH hel
 rw [← hmm] at hm ⊢
 have HM:=lH hmm
 have hmk:=lH (make_ints m hm)
 have hmk':=hmk.out
 clear hel hmm
 go_enter Tryz.func130,Tryz.ntmps130
 go_wp2
 clear hmk'
 obtain ⟨W,hW⟩ : ∃ W,W=w.alloc (.cells (madeCells #[.int .i64 0] m) 3):=⟨_,rfl⟩
 have hbW : Below w.heap.size w W:=hW ▸ below1 w _
 have hI : Ints w.heap.size m (fun _=>0) W:=hW ▸ ints_made m w
 rw [← hW]
 clear hW
 have HI:=lH hI
 clear hI
 go_loopw [4,11] (fun _ i wr=>∃ k : Nat,k≤m∧i=.int .i64 k∧Below w.heap.size w wr∧Ints w.heap.size m (fun j=>if j<k then (os.map oid).getD j 0 else 0) wr) (fun _ i _=>m - (intOf i).toNat)
 case atStart=>exact ⟨0,Nat.zero_le _,rfl,hbW,HI.out.congr (fun j _=>by simp)⟩
 case round =>
  obtain ⟨k,hk,rfl,hb,hint⟩:=hrel
  by_cases hlt : k<m
  ·have hlt2 : (k : Int)<m:=by omega
   have hko : k<os.length:=by rw [← HM.out];exact hlt
   rcases HE.out with ⟨e,_⟩ | ⟨b2,off2,rfl,hat2⟩
   ·rw [e] at hko;cases hko
   ·have hat3:=Lies.keep eO 70 hat2 (Keeps.of_below hb)
    have hc5:=at5 hat3 k hko
    have hb2:=hat3.1
    have hget : (os.map oid).getD k 0=os[k].1:=by simp [hko,oid]
    obtain ⟨⟨o1,o2,o3,o4,o5⟩,ho⟩ : ∃ o,os[k]'hko=o:=⟨_,rfl⟩
    rw [ho] at hc5 hget
    simp only at hc5 hget
    obtain ⟨s0,s1,s2,s3,s4⟩:=hc5
    obtain ⟨i0,i1⟩:=hint.2 k hlt
    simp only [Nat.lt_irrefl,if_false] at i0
    have hgz:=hint.1
    have HN : Hid (Ints w.heap.size m (fun j=>if j<k+1 then (os.map oid).getD j 0 else 0) ((wr.setCell ⟨w.heap.size,k,none⟩ (.int .i64 o1)).alloc (.cells #[.int .i64 o1,.int .i64 o2,.int .i64 o3,.int .i64 o4,.int .i64 o5] 70))):=lH (((hint.set (x:=o1) hlt).stays (below1 _ _)).congr (fun j hj=>by
     by_cases e : j=k
     ·subst e;rw [if_pos rfl,if_pos (by omega),hget]
     ·rw [if_neg e]
      by_cases e2 : j<k
      ·rw [if_pos e2,if_pos (by omega)]
      ·rw [if_neg e2,if_neg (by omega)]))
    have hbn : Below w.heap.size w ((wr.setCell ⟨w.heap.size,k,none⟩ (.int .i64 o1)).alloc (.cells #[.int .i64 o1,.int .i64 o2,.int .i64 o3,.int .i64 o4,.int .i64 o5] 70)):=(hb.setCell (Nat.le_refl _) _).alloc (by simp;omega) _
    clear hint ho hat2 hat3 hget
    go_wp2
    go_roundw
    case rel=>exact ⟨k+1,by omega,by go_num,hbn,HN.out⟩
    case measure=>simp [intOf];omega
  ·obtain rfl : k=m:=by omega
   have hin2 : Ints w.heap.size k (fun j=>(os.map oid).getD j 0) wr:=hint.congr (fun j hj=>if_pos hj)
   have HN:=lH hin2
   have hml : k=(os.map oid).length:=by rw [List.length_map];exact HM.out
   have HL:=lH hml
   clear hint hin2 hml
   go_wp2_with fail
   refine (sort_any w.heap.size k _ wr HL.out HN.out hm).mono ?_
   rintro e w1 ⟨ss,rfl,hg1,hi1,hp,hsd,hsl⟩
   have HI1 : Hid (Ints w.heap.size k (fun j=>ss.getD j 0) w1):=lH (by rw [HL.out];exact hi1)
   have HS : Hid (k=ss.length):=lH (by rw [hsl];exact HL.out)
   have HD : Hid (nodB os=decide ((Lib.compact ss).length=k)):=lH (by rw [nod_of hp hsd,← HM.out])
   have hb1 : Below w.heap.size w w1:=hb.grown hg1 hb.size (fun k hk=>by injection hk with e;omega)
   clear hi1 hsl hp hsd hg1 hb
   go_wp2_with fail
   refine (compact_any w.heap.size k ss w1 HS.out HI1.out hm).mono ?_
   rintro e w2 ⟨rfl,hg2⟩
   have hb2 : Below w.heap.size w w2:=hb1.grown hg2 hb1.size (fun k hk=>by injection hk with e;omega)
   go_wp2
   go_ret
   exact ⟨ret_bool (by rw [HD.out,Bool.eq_iff_iff];simp;omega),hb2⟩
end Go.Proofs.YthecinmekoaphaaGreat.Le
