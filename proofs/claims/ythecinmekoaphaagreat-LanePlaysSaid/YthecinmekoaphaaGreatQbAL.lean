/- The document's own: Right. -/
import Derived.Test.YthecinmekoaphaaGreatQbZZ
import Derived.Test.YthecinmekoaphaaGreatQbAF
set_option linter.unusedVariables false
set_option maxRecDepth 16000
set_option maxHeartbeats 32000000
namespace Go.Proofs.YthecinmekoaphaaGreat.Le
open Go.RowKit
open Rw
open Da
theorem right_snoc {s : Int} {l : List Lv} {k : Nat} (hk : k<l.length) (h : RightL s (l.take k)) (h1 : l[k].2≠[]) (h2 : k=0∨ahead s (l.getD (k - 1) (0,[])).1 l[k].1=true) (h3 : ∀ o∈l[k].2,omay o s=true∧opr o=l[k].1) (h4 : ((flat (l.take k)++l[k].2).map oid).Nodup) : RightL s (l.take (k+1)):=by
 obtain ⟨a,b,c,d⟩:=h
 rw [Da.take_snoc hk]
 refine ⟨a,fun v hv=>?_,List.pairwise_append.2 ⟨c,by simp,fun u hu v hv=>?_⟩,by rw [flat_app,flat_cons,flat_nil,List.append_nil];exact h4⟩
 ·rcases List.mem_append.1 hv with hv | hv
  ·exact b v hv
  ·simp at hv;subst hv;exact ⟨h1,h3⟩
 ·simp at hv;subst hv
  obtain ⟨i,hi,rfl⟩:=List.getElem_of_mem hu
  rw [List.length_take] at hi
  rw [List.getElem_take]
  have hk0 : k≠0:=by omega
  have h5 : ahead s (l.getD (k - 1) (0,[])).1 l[k].1=true:=h2.resolve_left hk0
  have e : l.getD (k - 1) (0,[])=l[k - 1]:=by rw [List.getD_eq_getElem?_getD,List.getElem?_eq_getElem (by omega)];rfl
  rw [e] at h5
  by_cases hik : i=k - 1
  ·subst hik;exact h5
  ·have:=List.pairwise_iff_getElem.1 c i (k - 1) (by rw [List.length_take];omega) (by rw [List.length_take];omega) (by omega)
   rw [List.getElem_take,List.getElem_take] at this
   exact ahead_trans this h5
theorem right_parts {s : Int} {l : List Lv} (h : RightL s l) {k : Nat} (hk : k<l.length) : l[k].2≠[]∧(k=0∨ahead s (l.getD (k - 1) (0,[])).1 l[k].1=true)∧(∀ o∈l[k].2,omay o s=true∧opr o=l[k].1)∧((flat (l.take k)++l[k].2).map oid).Nodup:=by
 obtain ⟨a,b,c,d⟩:=h
 have hb:=b _ (List.getElem_mem hk)
 refine ⟨hb.1,?_,hb.2,?_⟩
 ·by_cases hk0 : k=0
  ·exact .inl hk0
  ·right
   have e : l.getD (k - 1) (0,[])=l[k - 1]:=by rw [List.getD_eq_getElem?_getD,List.getElem?_eq_getElem (by omega)];rfl
   rw [e]
   exact List.pairwise_iff_getElem.1 c (k - 1) k (by omega) hk (by omega)
 ·rw [← flat_take_snoc hk]
  have e : flat l=flat (l.take (k+1))++flat (l.drop (k+1)):=by rw [← flat_app,List.take_append_drop]
  rw [e,List.map_append] at d
  exact (List.nodup_append.1 d).1
abbrev OwnI (Bo : Nat) (l : List Int) (v : Value) (w : World) : Prop:=Own eI 3 (Bs.of Bo) Bo l v w
theorem infoI : (Tryz.prog.info? 3).map (fun i=>(i.zero,i.size,i.bytes))=some (some (.int .i64 0),1,8):=by kernel_rfl
theorem elemI : Elem Tryz.prog 152 3 eI.k 8:=elem_of Tryz.underlying152 infoI rfl (by decide)
theorem typesI : 3 ∉ eI.ts:=by decide
theorem at1 {B : Bs} {l : List Int} {b off : Nat} {w : World} (h : Lies eI 3 B l b off w) (i : Nat) (hi : i<l.length) : w.cell? ⟨b,off+i,none⟩=some (.int .i64 l[i]):=by
 obtain ⟨cs,rfl,hu⟩:=h.at i hi
 have:=hu 0 _ rfl
 simpa [eI,Enc.flat] using this
theorem nodup_at {l : List Od} {os : List Od} {j : Nat} (hj : j<os.length) (h : ((l++os).map oid).Nodup) : ∀ x∈(l++os.take j).map oid,x≠oid os[j]:=by
 intro x hx e
 have hs : l++os=(l++os.take j)++(os[j] :: os.drop (j+1)):=by rw [List.append_assoc,← List.drop_eq_getElem_cons hj,List.take_append_drop]
 rw [hs,List.map_append,List.nodup_append] at h
 exact h.2.2 x hx (oid os[j]) (List.mem_map_of_mem List.mem_cons_self) e
theorem nodup_snoc {l : List Od} {os : List Od} {j : Nat} (hj : j<os.length) (h : ((l++os.take j).map oid).Nodup) (hx : ∀ x∈(l++os.take j).map oid,x≠oid os[j]) : ((l++os.take (j+1)).map oid).Nodup:=by
 rw [Da.take_snoc hj,← List.append_assoc,List.map_append,List.nodup_append]
 exact ⟨h,by simp,fun a ha b hb=>by simp at hb;subst hb;exact hx a ha⟩
theorem rRight_any (B : Bs) (l : List Lv) (v : Value) (s : Int) (w : World) (h : LL B l v w) (hB : B.le w.heap.size) (hm : l.length≤1000000) (hf : (flat l).length≤1000000) :
  Calls Tryz.prog 102 #[v,.int .i64 s] w fun e w'=>e=.returned (.bool (rightL s l))∧Below w.heap.size w w':=by
 by_cases hs : s=1∨s=2
 ·obtain ⟨a1,c1,rfl,h1⟩:=h
  have HA:=lH h1
  have HFl:=lH hf
  obtain ⟨n,hn⟩ : ∃ n,n=l.length:=⟨_,rfl⟩
  rw [← hn] at hm ⊢
  have HN:=lH hn
  have hside : (s != 1&&s != 2)=false:=by rcases hs with e | e<;>simp [e]
  have HSd:=lH hs
  obtain ⟨r,hr⟩ : ∃ r,rightL s l=r:=⟨_,rfl⟩
  rw [hr]
  have HR:=lH hr
  have HNo : Hid (¬ RightL s l→r=false):=lH fun h=>by rw [← hr];exact rightL_no h
  clear h1 hn hf hr
  have hcase : (s != 1)=true∧(s != 2)=false∨(s != 1)=false:=by rcases hs with e | e<;>simp [e]
  clear hs hside
  rcases hcase with ⟨d1,d2⟩ | d1
  all_goals
   go_enter Tryz.func102,Tryz.ntmps102
   go_wp2
   go_loopw [5,20] (fun t i wr=>∃ k : Nat,k≤n∧i=.int .i64 k∧Below w.heap.size w wr∧OwnI w.heap.size ((flat (l.take k)).map oid) t wr∧RightL s (l.take k)) (fun _ i _=>n - (intOf i).toNat)
   case atStart=>exact ⟨0,Nat.zero_le _,rfl,Below.refl _ _,Own.nil _ _ _,right_nil HSd.out⟩
   case round =>
    obtain ⟨wo,rfl⟩ : ∃ wo : World,wo=wr:=⟨_,rfl⟩
    obtain ⟨k,hk,rfl,hb,hown,hrt⟩:=hrel
    have HO:=lH hown
    have HT:=lH hrt
    clear hown hrt
    by_cases hlt : k<n
    ·have hlt2 : (k : Int)<n:=by omega
     have hkl : k<l.length:=by rw [← HN.out];exact hlt
     rcases HA.out with ⟨e,_⟩ | ⟨b,off,rfl,hat⟩
     ·rw [e] at hkl;cases hkl
     have hbb:=hat.1
     obtain ⟨x,q0,q1,hx⟩:=atL hat k hkl
     have HX0:=lH (Is.stays eO 70 hx hb)
     obtain ⟨a2,c2,rfl⟩:=hx.len
     have hle:=flat_take_le l (k+1)
     rw [flat_take_snoc hkl,List.length_append] at hle
     have hpt:=lH (fun h : RightL s l=>right_parts h hkl)
     have hsn:=lH (right_snoc hkl HT.out)
     obtain ⟨⟨pr,os⟩,hlk⟩ : ∃ y,l[k]=y:=⟨_,rfl⟩
     have HLk:=lH hlk
     rw [hlk] at q0 q1 hle HX0 hpt hsn
     simp only at q0 q1 hle HX0 hpt hsn
     have HLe : Hid ((flat (l.take k)).length+os.length≤1000000):=lH (by have:=HFl.out;omega)
     obtain ⟨c1',f1,r1,p1⟩:=bcell hb
     have hsz:=hb.size
     obtain ⟨V,hV⟩ : ∃ V,V=wo.alloc (.cells #[.int .i64 pr,.slice a2 os.length c2] 98):=⟨_,rfl⟩
     have hbV : Below wo.heap.size wo V:=hV ▸ below1 wo _
     have hzV : wo.heap.size<V.heap.size:=by rw [hV];simp
     have hbox : V.heap[wo.heap.size]?=some (.cells #[.int .i64 pr,.slice a2 os.length c2] 98 (0,0)):=by rw [hV];exact heap_alloc_new wo _
     have s0 : V.cell? ⟨wo.heap.size,0,none⟩=some (.int .i64 pr):=by rw [hV];simp [go_sem]
     have s1 : V.cell? ⟨wo.heap.size,1,none⟩=some (.slice a2 os.length c2):=by rw [hV];simp [go_sem]
     have hbw:=nx hb hbV
     have hF : ∀ u,Below V.heap.size V u→u.cell? ⟨wo.heap.size,0,none⟩=some (.int .i64 pr)∧u.cell? ⟨wo.heap.size,1,none⟩=some (.slice a2 os.length c2):=fun u hu =>
      ⟨by rw [hu.cell (p:=⟨wo.heap.size,0,none⟩) hzV];exact s0,by rw [hu.cell (p:=⟨wo.heap.size,1,none⟩) hzV];exact s1⟩
     have HBox:=lH hbox
     have HV:=lH hV
     clear hbox hV hle s0 s1 hx hlk
     by_cases hos : os=[]
     ·have HZ : Hid (r=false):=lH (HNo.out fun h=>(hpt.out h).1 hos)
      have hd : ((os.length : Int)==0)=true:=by rw [hos];rfl
      clear hos
      go_wp2
      rw [← HV.out]
      refine Rf.rg [0,1,2,3,4,5,6,7,8,9,10,11,12,13,14,15,16,17,18,19,20] ?_
      repeat (first | (refine Rf.Steps.sk ?_;simp only [Act.put,sA,sB,sC]) | (refine Rf.Steps.pu (v:=?_) ?_ ?_;rotate_left;(intro w_ hS_;have hk_:=hF w_ hS_;go_simp<;>with_reducible rfl);simp only [Act.put,sA,sB,sC]))
      refine Rf.Steps.nil (by kernel_rfl) ?_
      intro w4 hb6
      go_wp2
      go_ret
      exact ⟨ret_bool HZ.out.symm,nx hbw hb6⟩
     ·have hpos : 0<os.length:=List.length_pos_iff.2 hos
      have hd : ((os.length : Int)==0)=false:=by simp;omega
      have HOs:=lH hos
      have hosl : os.length≤1000000:=by have:=HLe.out;omega
      clear hos
      have hway : (k=0∧decide ((0 : Int)<(k : Int))=false)∨(0<k∧decide ((0 : Int)<(k : Int))=true):=by
       rcases Nat.eq_zero_or_pos k with e | e
       ·exact .inl ⟨e,by simp [e]⟩
       ·exact .inr ⟨e,by simpa using e⟩
      rcases hway with ⟨hk0,d3⟩ | ⟨hk0,d3⟩
      case' inl =>
       have d3' : decide (0<k)=false:=by simp [hk0]
       have HAh : Hid (k=0∨ahead s (l.getD (k - 1) (0,[])).1 pr=true):=lH (.inl hk0)
       have HK0:=lH hk0
       clear hk0
       go_wp2
       rw [← HV.out]
       refine Rf.rg [0,1,2,3,4,5,6,7,8,9,10,11,12,13,14,15,16,17,18,19,20] ?_
       repeat (first | (refine Rf.Steps.sk ?_;simp only [Act.put,sA,sB,sC]) | (refine Rf.Steps.pu (v:=?_) ?_ ?_;rotate_left;(intro w_ hS_;have hk_:=hF w_ hS_;go_simp<;>with_reducible rfl);simp only [Act.put,sA,sB,sC]))
       refine Rf.Steps.nil (by kernel_rfl) ?_
       intro w4 hb6
      case' inr =>
       have d3' : decide (0<k)=true:=by simpa using hk0
       have hkp : k - 1<l.length:=by omega
       obtain ⟨x',t0,t1,_⟩:=atL hat (k - 1) hkp
       have e9 : l.getD (k - 1) (0,[])=l[k - 1]:=by rw [List.getD_eq_getElem?_getD,List.getElem?_eq_getElem hkp];rfl
       obtain ⟨pp,hpp⟩ : ∃ pp,l[k - 1].1=pp:=⟨_,rfl⟩
       rw [hpp] at t0
       have HPp : Hid ((l.getD (k - 1) (0,[])).1=pp):=lH (by rw [e9];exact hpp)
       have d4 : IntKind.i64.wrap ((k : Int) - 1)=(k : Int) - 1:=IntWalk.i64_in _ (by omega)
       have d5 : ((k : Int) - 1).toNat=k - 1:=by omega
       have d6 : (0 : Int)≤(k : Int) - 1:=by omega
       have d6' : (1 : Int)≤(k : Int):=by omega
       have d7 : (k : Int) - 1<n:=by omega
       have hF2 : ∀ u,Below V.heap.size V u→(u.cell? ⟨wo.heap.size,0,none⟩=some (.int .i64 pr)∧u.cell? ⟨wo.heap.size,1,none⟩=some (.slice a2 os.length c2))∧u.cell? ⟨b,off+(k - 1)*2,none⟩=some (.int .i64 pp):=fun u hu =>
        ⟨hF u hu,by rw [(nx hbw hu).cell (p:=⟨b,off+(k - 1)*2,none⟩) hbb];exact t0⟩
       clear e9 hpp t1 t0
       cases hah : ahead s pp pr
       ·have HQ:=lH hah
        have HZ : Hid (r=false):=lH (HNo.out fun h=>by
         rcases (hpt.out h).2.1 with e | e
         ·omega
         ·rw [HPp.out,hah] at e;cases e)
        clear hah
        go_wp2
        rw [← HV.out]
        refine Rf.rg [0,1,2,3,4,5,6,7,8,9,10,11,12,13,14,15,16,17,18,19,20] ?_
        repeat (first | (refine Rf.Steps.sk ?_;simp only [Act.put,sA,sB,sC]) | (refine Rf.Steps.pu (v:=?_) ?_ ?_;rotate_left;(intro w_ hS_;have hk_:=hF2 w_ hS_;go_simp<;>with_reducible rfl);simp only [Act.put,sA,sB,sC]) | (refine Rf.Steps.ca (v:=?_) (f:=?_) (args:=?_) ?_ ?_ ?_;rotate_left 3;(intro w_ hS_;have hk_:=hF2 w_ hS_;go_simp<;>first | with_reducible rfl | (constructor<;>with_reducible rfl));(intro w_ hS_;have hk_:=hF2 w_ hS_;first | (go_at_call 128;refine (rAhead_is HQ _).mono ?_;first | (rintro e w_ ⟨rfl,rfl⟩;refine ⟨?_,Below.refl _ _⟩;with_reducible rfl) | (rintro e w_ ⟨rfl,hb_⟩;refine ⟨?_,hb_⟩;with_reducible rfl)));simp only [Act.put,sA,sB,sC]))
        refine Rf.Steps.nil (by kernel_rfl) ?_
        intro w4 hb6
        go_wp2
        go_ret
        exact ⟨ret_bool HZ.out.symm,nx hbw hb6⟩
       have HQ:=lH hah
       have HAh : Hid (k=0∨ahead s (l.getD (k - 1) (0,[])).1 pr=true):=lH (.inr (by rw [HPp.out];exact hah))
       clear hah
       go_wp2
       rw [← HV.out]
       refine Rf.rg [0,1,2,3,4,5,6,7,8,9,10,11,12,13,14,15,16,17,18,19,20] ?_
       repeat (first | (refine Rf.Steps.sk ?_;simp only [Act.put,sA,sB,sC]) | (refine Rf.Steps.pu (v:=?_) ?_ ?_;rotate_left;(intro w_ hS_;have hk_:=hF2 w_ hS_;go_simp<;>with_reducible rfl);simp only [Act.put,sA,sB,sC]) | (refine Rf.Steps.ca (v:=?_) (f:=?_) (args:=?_) ?_ ?_ ?_;rotate_left 3;(intro w_ hS_;have hk_:=hF2 w_ hS_;go_simp<;>first | with_reducible rfl | (constructor<;>with_reducible rfl));(intro w_ hS_;have hk_:=hF2 w_ hS_;first | (go_at_call 128;refine (rAhead_is HQ _).mono ?_;first | (rintro e w_ ⟨rfl,rfl⟩;refine ⟨?_,Below.refl _ _⟩;with_reducible rfl) | (rintro e w_ ⟨rfl,hb_⟩;refine ⟨?_,hb_⟩;with_reducible rfl)));simp only [Act.put,sA,sB,sC]))
       refine Rf.Steps.nil (by kernel_rfl) ?_
       intro w4 hb6
       clear hF2
      all_goals
       have hF4:=hF w4 hb6
       obtain ⟨g0,g1⟩:=hF4
       have hz4 : wo.heap.size<w4.heap.size:=by have:=hb6.size;omega
       have hN0:=HT.out.2.2.2
       have hst1:=HO.out.stays (nx hbV hb6)
       have hst2:=Is.stays eO 70 (Is.stays eO 70 HX0.out hbV) hb6
       have hst3:=(hb6.block _ hzV).trans HBox.out
       have HSt:=lH (show _∧_∧_∧_ from ⟨hN0,hst1,hst2,hst3⟩)
       clear hN0 hst1 hst2 hst3 hF
       go_wp2
       go_loopw [5,49] (fun t i wr=>∃ j : Nat,j≤os.length∧i=.int .i64 j∧Below w.heap.size w wr∧wr.heap[wo.heap.size]?=some (.cells #[.int .i64 pr,.slice a2 os.length c2] 98 (0,0))∧OL B os (.slice a2 os.length c2) wr ∧
        OwnI w.heap.size ((flat (l.take k)++os.take j).map oid) t wr∧(∀ o∈os.take j,omay o s=true∧opr o=pr)∧((flat (l.take k)++os.take j).map oid).Nodup) (fun _ i _=>os.length - (intOf i).toNat)
       case atStart=>exact ⟨0,Nat.zero_le _,rfl,nx hbw hb6,HSt.out.2.2.2,HSt.out.2.2.1,by simpa using HSt.out.2.1,by simp,by simpa using HSt.out.1⟩
       case round =>
        obtain ⟨wi,rfl⟩ : ∃ wi : World,wi=wr:=⟨_,rfl⟩
        obtain ⟨j,hj,rfl,hbi,hbox,hol,hoi,hok,hnd⟩:=hrel
        have HBx:=lH hbox
        have HOi:=lH hoi
        have HOk:=lH hok
        have HNd:=lH hnd
        have HOl:=lH hol
        have hzi : wo.heap.size<wi.heap.size:=(Array.getElem?_eq_some_iff.1 hbox).1
        have k0 : wi.cell? ⟨wo.heap.size,0,none⟩=some (.int .i64 pr):=by simp [World.cell?,hbox]
        clear hbox hoi hok hnd
        by_cases hjm : j<os.length
        ·have hjm2 : (j : Int)<os.length:=by omega
         rcases hol.cases with ⟨e,_⟩ | ⟨_,b2,off2,cc,e,hat2⟩
         ·exact absurd e HOs.out
         simp only [Value.slice.injEq] at e
         obtain ⟨rfl,_,rfl⟩:=e
         have hbb2:=hat2.1
         obtain ⟨⟨o1,o2,o3,o4,o5⟩,ho⟩ : ∃ o,os[j]=o:=⟨_,rfl⟩
         have hc5:=at5 hat2 j hjm
         rw [ho] at hc5
         simp only at hc5
         obtain ⟨z0,z1,z2,z3,z4⟩:=hc5
         have HOo:=lH ho
         clear ho hat2 hol
         cases hom : omay (o1,o2,o3,o4,o5) s
         ·have HM:=lH hom
          have HZ : Hid (r=false):=lH (HNo.out fun h=>by
           have:=((hpt.out h).2.2.1 os[j] (List.getElem_mem hjm)).1
           rw [HOo.out,hom] at this;cases this)
          clear hom
          go_wp2_with fail
          refine (rOmay_is HM _).mono ?_
          rintro e w5 ⟨rfl,hb5⟩
          go_wp2
          go_ret
          exact ⟨ret_bool HZ.out.symm,nx hbi (nx (below1 _ _) hb5)⟩
         ·have HM:=lH hom
          by_cases hpr : o4=pr
          ·have hdp : (o4 != pr)=false:=by simpa using hpr
           have HPr:=lH hpr
           clear hpr hom
           go_wp2_with fail
           refine (rOmay_is HM _).mono ?_
           rintro e w5 ⟨rfl,hb5⟩
           have hU:=nx (below1 wi (.cells #[.int .i64 o1,.int .i64 o2,.int .i64 o3,.int .i64 o4,.int .i64 o5] 70)) hb5
           have m0 : w5.cell? ⟨wo.heap.size,0,none⟩=some (.int .i64 pr):=by rw [hU.cell (p:=⟨wo.heap.size,0,none⟩) hzi];exact k0
           have m1 : w5.cell? ⟨wi.heap.size,0,none⟩=some (.int .i64 o1):=by rw [hb5.cell (p:=⟨wi.heap.size,0,none⟩) (by simp)];simp [go_sem]
           have m3 : w5.cell? ⟨wi.heap.size,3,none⟩=some (.int .i64 o4):=by rw [hb5.cell (p:=⟨wi.heap.size,3,none⟩) (by simp)];simp [go_sem]
           have hz5 : wi.heap.size<w5.heap.size:=by have:=hb5.size;simp at this;omega
           have hI5:=HOi.out.stays hU
           obtain ⟨L,hL⟩ : ∃ L,(flat (l.take k)++os.take j).map oid=L:=⟨_,rfl⟩
           rw [hL] at hI5
           have HL:=lH hL
           have HI5:=lH hI5
           obtain ⟨a3,c3,he3,hel⟩:=hI5.is (by decide) (Bs.of_le _)
           subst he3
           have HEl:=lH hel
           have hLl : L.length≤1000000:=by
            rw [← hL,List.length_map,List.length_append,List.length_take]
            have:=HLe.out;omega
           clear hL hI5 hel
           go_wp2
           go_loop [66] (fun i=>∃ q : Nat,q≤L.length∧i=.int .i64 q∧∀ x∈L.take q,x≠o1) (fun i=>L.length - (intOf i).toNat)
           case atStart=>exact ⟨0,Nat.zero_le _,rfl,by simp⟩
           case round =>
            obtain ⟨q,hq,rfl,hqn⟩:=hrel
            have HQn:=lH hqn
            clear hqn
            by_cases hqL : q<L.length
            ·have hqL2 : (q : Int)<L.length:=by omega
             rcases HEl.out with ⟨e,_⟩ | ⟨b3,off3,rfl,hat3⟩
             ·rw [e] at hqL;cases hqL
             have y0:=at1 hat3 q hqL
             obtain ⟨y,hy⟩ : ∃ y,L[q]=y:=⟨_,rfl⟩
             rw [hy] at y0
             have HY:=lH hy
             clear hy hat3
             by_cases hye : y=o1
             ·have hdy : (y==o1)=true:=by simpa using hye
              have HZ : Hid (r=false):=lH (HNo.out fun h=>by
               have:=nodup_at hjm (hpt.out h).2.2.2 L[q] (by rw [HL.out];exact List.getElem_mem hqL)
               rw [HY.out,HOo.out] at this
               exact this hye)
              clear hye
              go_wp2
              go_ret
              exact ⟨ret_bool HZ.out.symm,nx hbi hU⟩
             ·have hdy : (y==o1)=false:=by simpa using hye
              have HQ2 : Hid (∀ x∈L.take (q+1),x≠o1):=lH (by
               rw [Da.take_snoc hqL,HY.out]
               intro x hx
               rcases List.mem_append.1 hx with hx | hx
               ·exact HQn.out x hx
               ·simp at hx;rw [hx];exact hye)
              clear hye
              go_wp2
              go_round
              case rel=>exact ⟨q+1,by omega,by go_num,HQ2.out⟩
              case measure=>simp [intOf];omega
            ·obtain rfl : q=L.length:=by omega
             have hall : ∀ x∈L,x≠o1:=by have:=HQn.out;rwa [List.take_length] at this
             have HAl:=lH hall
             have hb6':=below1 w5 (.cells #[.int .i64 o1] 3)
             obtain ⟨v6,w6,hrun,hown6,_,hbl,hkp⟩:=Own.append elemI 152 typesI (Bs.of_le _) (by have:=hbi.size;have:=hU.size;simp;omega) (HI5.out.stays hb6') (Is.one (e:=eI) (T:=3) (B:=Bs.of w.heap.size) (x:=o1) (cs:=[.int .i64 o1]) (w:=w5) ((Bs.of_le _).mono (by have:=hbi.size;have:=hU.size;omega)) rfl) (by simp;omega) (by omega)
             have hbw6:=hbl _ _ (Nat.le_refl _) (nx (nx hbi hU) hb6')
             have hbx6 : w6.heap[wo.heap.size]?=some (.cells #[.int .i64 pr,.slice (some ⟨b2,off2,none⟩) os.length c2] 98 (0,0)) :=
              (hkp [98] (by decide)).block _ _ (((nx hU hb6').block _ hzi).trans HBx.out) (.inr ⟨_,_,_,rfl,by simp,fun h=>h⟩)
             have hol6 : OL B os (.slice (some ⟨b2,off2,none⟩) os.length c2) w6:=Is.keep eO 70 (Is.stays eO 70 HOl.out (nx hU hb6')) ((hkp _ (by decide)).low (Bs.sub_of hB))
             have hoi6 : OwnI w.heap.size ((flat (l.take k)++os.take (j+1)).map oid) v6 w6:=by
              rw [Da.take_snoc hjm,← List.append_assoc,List.map_append,HL.out,HOo.out];exact hown6
             have hok6 : ∀ o∈os.take (j+1),omay o s=true∧opr o=pr:=by
              rw [Da.take_snoc hjm]
              intro o ho
              rcases List.mem_append.1 ho with ho | ho
              ·exact HOk.out o ho
              ·simp only [List.mem_singleton] at ho;rw [ho,HOo.out];exact ⟨HM.out,HPr.out⟩
             have hnd6 : ((flat (l.take k)++os.take (j+1)).map oid).Nodup:=nodup_snoc hjm HNd.out (by rw [HL.out,HOo.out];exact HAl.out)
             have HRel:=lH (show _∧_∧_∧_∧_∧_ from ⟨hbw6,hbx6,hol6,hoi6,hok6,hnd6⟩)
             clear hall hbl hkp hown6 hbw6 hbx6 hol6 hoi6 hok6 hnd6 hb6'
             go_wp2
             go_roundw
             case rel=>exact ⟨j+1,by omega,by go_num,HRel.out.1,HRel.out.2.1,HRel.out.2.2.1,HRel.out.2.2.2.1,HRel.out.2.2.2.2.1,HRel.out.2.2.2.2.2⟩
             case measure=>simp [intOf];omega
          ·have hdp : (o4 != pr)=true:=by simpa using hpr
           have HZ : Hid (r=false):=lH (HNo.out fun h=>by
            have:=((hpt.out h).2.2.1 os[j] (List.getElem_mem hjm)).2
            rw [HOo.out] at this;exact hpr this)
           clear hpr hom
           go_wp2_with fail
           refine (rOmay_is HM _).mono ?_
           rintro e w5 ⟨rfl,hb5⟩
           have m0 : w5.cell? ⟨wo.heap.size,0,none⟩=some (.int .i64 pr):=by rw [(nx (below1 _ _) hb5).cell (p:=⟨wo.heap.size,0,none⟩) hzi];exact k0
           have m3 : w5.cell? ⟨wi.heap.size,3,none⟩=some (.int .i64 o4):=by rw [hb5.cell (p:=⟨wi.heap.size,3,none⟩) (by simp)];simp [go_sem]
           go_wp2
           go_ret
           exact ⟨ret_bool HZ.out.symm,nx hbi (nx (below1 _ _) hb5)⟩
        ·obtain rfl : j=os.length:=by omega
         have hoi2:=HOi.out
         have hok2:=HOk.out
         have hnd2:=HNd.out
         rw [List.take_length] at hoi2 hok2 hnd2
         have hrt2:=hsn.out HOs.out HAh.out hok2 hnd2
         have e2 : flat (l.take (k+1))=flat (l.take k)++os:=by rw [flat_take_snoc hkl,HLk.out]
         rw [← e2] at hoi2
         have HRel:=lH (show _∧_∧_ from ⟨hbi,hoi2,hrt2⟩)
         clear hoi2 hok2 hnd2 hrt2 e2 hol k0
         go_wp2
         go_roundw
         case rel=>exact ⟨k+1,by omega,by go_num,HRel.out.1,HRel.out.2.1,HRel.out.2.2⟩
         case measure=>simp [intOf];omega
    ·obtain rfl : k=n:=by omega
     have HZ : Hid (r=true):=lH (by rw [← HR.out];refine rightL_iff.2 ?_;have:=HT.out;rwa [HN.out,List.take_length] at this)
     go_wp2
     go_ret
     exact ⟨ret_bool HZ.out.symm,hb⟩
 ·have HZ : Hid (rightL s l=false):=lH (rightL_no fun h=>hs h.1)
  have d1 : (s != 1)=true:=by simp;omega
  have d2 : (s != 2)=true:=by simp;omega
  clear hs h
  go_enter Tryz.func102,Tryz.ntmps102
  go_wp2
  go_ret
  exact ⟨ret_bool HZ.out.symm,Below.refl _ _⟩
def cO : Option Od→Array Value
 | some o=>#[.int .i64 o.1,.int .i64 o.2.1,.int .i64 o.2.2.1,.int .i64 o.2.2.2.1,.int .i64 o.2.2.2.2]
 | none=>#[.int .i64 0,.int .i64 0,.int .i64 0,.int .i64 0,.int .i64 0]
theorem cO_size (r : Option Od) : (cO r).size=5:=by cases r<;>rfl
def Var (b : Nat) (r : Option Od) (w : World) : Prop:=∃ t,w.heap[b]?=some (.cells (cO r) t (0,0))
theorem Var.same {b : Nat} {r : Option Od} {w w' : World} (h : Var b r w) (e : w'.heap[b]?=w.heap[b]?) : Var b r w':=by
 obtain ⟨t,h⟩:=h;exact ⟨t,e.trans h⟩
theorem Var.lt {b : Nat} {r : Option Od} {w : World} (h : Var b r w) : b<w.heap.size:=by obtain ⟨t,h⟩:=h;exact (Array.getElem?_eq_some_iff.1 h).1
theorem Var.stays {b : Nat} {r : Option Od} {w w' : World} (h : Var b r w) (k : Below w.heap.size w w') : Var b r w':=h.same (k.block b h.lt)
theorem Var.row {b : Nat} {r : Option Od} {w : World} (h : Var b r w) : row w b=cO r:=by obtain ⟨t,h⟩:=h;unfold Rw.row;rw [h]
theorem Var.plain {b : Nat} {r : Option Od} {w : World} (h : Var b r w) : plain 5 w b=true:=by obtain ⟨t,h⟩:=h;unfold Rw.plain;rw [h];simp [cO_size]
theorem Var.set {b : Nat} {r : Option Od} {w : World} (r' : Option Od) (h : Var b r w) : Var b r' (w.setRow b (cO r')):=by
 obtain ⟨t,h⟩:=h;exact ⟨t,setRow_heap w b _ _ _ _ h⟩
theorem Var.made (w : World) : Var w.heap.size none (w.alloc (.cells #[.int .i64 0,.int .i64 0,.int .i64 0,.int .i64 0,.int .i64 0] 70)):=⟨_,heap_alloc_new w _⟩
theorem alt_setRow {X : Nat→Prop} {a w : World} (h : Alt X a w) {b : Nat} (hb : X b) (c : Array Value) : Alt X a (w.setRow b c) :=
 h.trans ⟨rfl,rfl,rfl,by rw [setRow_size];exact Nat.le_refl _,fun i _ hx=>setRow_other w b i c (fun e=>hx (by rw [e];exact hb))⟩
theorem set2 {w : World} {b : Nat} {x y z : Value} {t : TypeId} (h : w.heap[b]?=some (.cells #[x,y] t (0,0))) : (w.setCell ⟨b,1,none⟩ z).heap[b]?=some (.cells #[x,z] t (0,0)):=by
 simp [World.setCell,Array.getElem?_modify,h]
theorem alt_low {X : Nat→Prop} {a w w' : World} {n : Nat} (h : Alt X a w) (k : Below n w w') (hn : a.heap.size≤n) : Alt X a w' :=
 ⟨k.os.trans h.os,k.tape.trans h.tape,k.output.trans h.output,Nat.le_trans h.size k.size,fun b hb hx=>(k.block b (Nat.lt_of_lt_of_le hb hn)).trans (h.block b hb hx)⟩
theorem low_setCell {w : World} {b n : Nat} (o : Nat) (v : Value) (h : n≤b) : Below n w (w.setCell ⟨b,o,none⟩ v) :=
 ⟨rfl,rfl,rfl,by simp [World.setCell],fun i hi=>Below.heap_setCell w ⟨b,o,none⟩ v i (by show i≠b;omega)⟩
theorem keeps_setCell {B : Bs} {ts : List TypeId} {w : World} {b : Nat} {cur : Array Value} {t : TypeId} {fr : Nat × Nat} (o : Nat) (v : Value) (h : w.heap[b]?=some (.cells cur t fr)) (ht : t ∉ ts) (hB : B.lo≤b) : Keeps B ts w (w.setCell ⟨b,o,none⟩ v) :=
 ⟨by simp [World.setCell],fun i ob hi ho=>by
  by_cases e : i=b
  ·subst e
   rw [h] at hi
   obtain rfl:=Option.some.inj hi
   rcases ho with ho | ⟨_,_,_,he,hm,_⟩
   ·omega
   ·simp only [Obj.cells.injEq] at he
    exact absurd (he.2.1 ▸ hm) ht
  ·exact (Below.heap_setCell w ⟨b,o,none⟩ v i e).trans hi⟩
theorem roundA {B' : Bs} {wo wi : World} {g r bx Bo : Nat} {pr : Int} {x : Value} {l : List Od} {q : Option Od} {o : Od} (ha : Alt (fun b=>b=g) wo wi) (hg : Var g q wi) (hr : Var r none wi) (hb : wi.heap[bx]?=some (.cells #[.int .i64 pr,x] 98 (0,0))) (ho : OwnO B' Bo l x wi) (hle : B'.le Bo) (hrg : r≠g) (hbz : bx<wi.heap.size) (hbg : bx≠g) (hex : B'.ex g∧B'.lo≤g) :
  Alt (fun b=>b=g) wo ((wi.setRow g (cO (some o))).alloc (.cells (cO (some o)) 70))∧Var g (some o) ((wi.setRow g (cO (some o))).alloc (.cells (cO (some o)) 70))∧Var r none ((wi.setRow g (cO (some o))).alloc (.cells (cO (some o)) 70)) ∧
   ((wi.setRow g (cO (some o))).alloc (.cells (cO (some o)) 70)).heap[bx]?=some (.cells #[.int .i64 pr,x] 98 (0,0))∧OwnO B' Bo l x ((wi.setRow g (cO (some o))).alloc (.cells (cO (some o)) 70)):=by
 have h1:=below1 (wi.setRow g (cO (some o))) (.cells (cO (some o)) 70)
 have hz : (wi.setRow g (cO (some o))).heap.size=wi.heap.size:=setRow_size _ _ _
 have a1:=alt_setRow (Alt.refl (fun b=>b=g) wi) (b:=g) rfl (cO (some o))
 refine ⟨(ha.trans a1).trans (Alt.of_below h1),(hg.set (some o)).stays h1,(hr.same (setRow_other _ _ _ _ hrg)).stays h1,?_,?_⟩
 ·rw [h1.block bx (by omega),setRow_other _ _ _ _ hbg];exact hb
 ·exact Own.keep hle ho ((Keeps.of_alt a1 (fun b hb _=>by rw [hb];exact hex)).trans (Keeps.of_below h1))
theorem roundB {B' : Bs} {wo wi w6 : World} {g r bx Bo : Nat} {pr : Int} {x v : Value} {l : List Od} {q : Option Od} (ha : Alt (fun b=>b=g) wo wi) (hg : Var g q wi) (hr : Var r none wi) (hb : w6.heap[bx]?=some (.cells #[.int .i64 pr,x] 98 (0,0))) (ho : OwnO B' Bo l v w6) (hl : Below Bo wi w6) (hle : B'.le Bo) (hbx : bx+1=Bo∧wo.heap.size≤bx∧B'.lo≤bx) (hgr : g<bx∧r<bx) :
  Alt (fun b=>b=g) wo (w6.setCell ⟨bx,1,none⟩ v)∧Var g q (w6.setCell ⟨bx,1,none⟩ v)∧Var r none (w6.setCell ⟨bx,1,none⟩ v)∧(w6.setCell ⟨bx,1,none⟩ v).heap[bx]?=some (.cells #[.int .i64 pr,v] 98 (0,0))∧OwnO B' Bo l v (w6.setCell ⟨bx,1,none⟩ v):=by
 have h2 : Below bx wi (w6.setCell ⟨bx,1,none⟩ v):=(hl.mono (by omega)).trans (low_setCell 1 v (Nat.le_refl _))
 exact ⟨alt_low ha h2 hbx.2.1,hg.same (h2.block _ hgr.1),hr.same (h2.block _ hgr.2),set2 hb,Own.keep hle ho (keeps_setCell 1 v hb (by decide) hbx.2.2)⟩
def Post3 (F : Value→World→Prop) (r : Option Od) (w : World) (e : Ending) (w' : World) : Prop:=∃ v,e=.returned (.tuple #[v,.agg (cO r),.bool r.isSome])∧Below w.heap.size w w'∧F v w'
theorem any_some (l : List Od) (id : Int) : l.any (hasId id)=(fnd l id).isSome:=by unfold fnd;rw [Bool.eq_iff_iff,List.find?_isSome,List.any_eq_true]
theorem rRemove_any (B : Bs) (l : List Lv) (v : Value) (id : Int) (w : World) (h : LL B l v w) (hB : B.le w.heap.size) (hm : l.length≤1000000) (hf : (flat l).length≤1000000) :
  Calls Tryz.prog 78 #[v,.int .i64 id] w (Post3 (LL B (rem l id)) (fnd (flat l) id) w):=by
 obtain ⟨W,hW⟩ : ∃ W,W=(w.alloc (.cells #[.int .i64 0,.int .i64 0,.int .i64 0,.int .i64 0,.int .i64 0] 70)).alloc (.cells #[.int .i64 0,.int .i64 0,.int .i64 0,.int .i64 0,.int .i64 0] 70):=⟨_,rfl⟩
 have hbW : Below w.heap.size w W:=hW ▸ below2 w _ _
 have hzW : W.heap.size=w.heap.size+2:=by rw [hW];simp
 have hv1 : Var w.heap.size none W:=by rw [hW];exact (Var.made w).stays (below1 _ _)
 have hv2 : Var (w.heap.size+1) none W:=by
  have:=Var.made (w.alloc (.cells #[.int .i64 0,.int .i64 0,.int .i64 0,.int .i64 0,.int .i64 0] 70))
  rw [World.size_alloc] at this
  rw [hW];exact this
 obtain ⟨B',hB'⟩ : ∃ B',B'=B.but (fun b=>b=w.heap.size∨b=w.heap.size+1):=⟨_,rfl⟩
 have hle : B'.le (w.heap.size+2):=by rw [hB'];exact Bs.but_le (hB.mono (by omega)) (fun b hb=>by omega)
 have hnow : LL B' l v W:=by rw [hB'];exact Is.stays eL 98 (Is.now eL 98 h (fun b hb=>by omega)) hbW
 have hsub : B'.sub B:=by rw [hB'];exact Bs.sub_but _ _
 have hex : ∀ b,b=w.heap.size∨b=w.heap.size+1→B'.ex b∧B'.lo≤b:=fun b hb=>by rw [hB'];exact ⟨.inr hb,by have:=hB.1;show B.lo≤b;omega⟩
 have HLe:=lH hle
 have HSub:=lH hsub
 have HEx:=lH hex
 have HV1:=lH hv1
 have HV2:=lH hv2
 have HFl:=lH hf
 have HW:=lH hW
 obtain ⟨a1,c1,rfl,h1⟩:=hnow
 have HA:=lH h1
 obtain ⟨n,hn⟩ : ∃ n,n=l.length:=⟨_,rfl⟩
 rw [← hn] at hm ⊢
 have HN:=lH hn
 obtain ⟨r,hr⟩ : ∃ r,fnd (flat l) id=r:=⟨_,rfl⟩
 rw [hr]
 have HR:=lH hr
 clear hle hsub hex hv1 hv2 hf hW h1 hn hr hB' h
 go_enter Tryz.func78,Tryz.ntmps78
 go_wp2
 rw [← HW.out]
 go_loopw [7,9,17] (fun t f i wr=>∃ k : Nat,k≤n∧i=.int .i64 k∧f=.bool ((flat (l.take k)).any (hasId id))∧Alt (fun b=>b=w.heap.size+1) W wr∧OwnL B' (w.heap.size+2) (remL id (l.take k) false) t wr∧Var (w.heap.size+1) (fnd (flat (l.take k)) id) wr∧Var w.heap.size none wr) (fun _ _ i _=>n - (intOf i).toNat)
 case atStart=>exact ⟨0,Nat.zero_le _,rfl,rfl,Alt.refl _ _,Own.nil _ _ _,HV2.out,HV1.out⟩
 case round =>
  obtain ⟨wo,rfl⟩ : ∃ wo : World,wo=wr:=⟨_,rfl⟩
  obtain ⟨k,hk,rfl,rfl,hal,hown,hvg,hvr⟩:=hrel
  have HO:=lH hown
  have HVg:=lH hvg
  have HVr:=lH hvr
  have HAl:=lH hal
  have hszo : w.heap.size+2≤wo.heap.size:=by have:=hal.size;omega
  have HBo : Hid (Below w.heap.size w wo):=lH (Alt.below hbW hal (by omega) (fun b hb=>by omega))
  clear hown hvg hvr
  by_cases hlt : k<n
  ·have hlt2 : (k : Int)<n:=by omega
   have hkl : k<l.length:=by rw [← HN.out];exact hlt
   rcases HA.out with ⟨e,_⟩ | ⟨b,off,rfl,hat0⟩
   ·rw [e] at hkl;cases hkl
   have hat:=Lies.keep eL 98 hat0 (Keeps.of_alt hal (fun b hb _=>HEx.out b (.inr hb)))
   obtain ⟨x,q0,q1,hx⟩:=atL hat k hkl
   have hbb:=hat.1
   obtain ⟨a2,c2,rfl⟩:=hx.len
   have hle:=flat_take_le l (k+1)
   have hfs:=flat_take_snoc hkl
   have hrs:=remL_snoc id l[k] (l.take k) false
   rw [← take_all hkl,Bool.false_or] at hrs
   rw [hfs,List.length_append] at hle
   obtain ⟨⟨pr,os⟩,hlk⟩ : ∃ y,l[k]=y:=⟨_,rfl⟩
   rw [hlk] at q0 q1 hle hx hfs hrs
   simp only at q0 q1 hle hx hfs hrs
   have HFs:=lH hfs
   have HRs:=lH hrs
   have HX0:=lH hx
   have hosl : os.length≤1000000:=by have:=HFl.out;omega
   obtain ⟨V,hV⟩ : ∃ V,V=(wo.alloc (.cells #[.int .i64 pr,.slice a2 os.length c2] 98)).alloc (.cells #[.int .i64 pr,.slice none 0 0] 98):=⟨_,rfl⟩
   have hbV : Below wo.heap.size wo V:=hV ▸ below2 wo _ _
   have hzV : V.heap.size=wo.heap.size+2:=by rw [hV];simp
   have hbox : V.heap[wo.heap.size+1]?=some (.cells #[.int .i64 pr,.slice none 0 0] 98 (0,0)):=by
    have:=heap_alloc_new (wo.alloc (.cells #[.int .i64 pr,.slice a2 os.length c2] 98)) (.cells #[.int .i64 pr,.slice none 0 0] 98)
    rw [World.size_alloc] at this
    rw [hV];exact this
   have HBox:=lH hbox
   have HVV:=lH hV
   have HG1 : Hid (Var (w.heap.size+1) (fnd (flat (l.take k)) id) V):=lH (HVg.out.stays hbV)
   have HR1 : Hid (Var w.heap.size none V):=lH (HVr.out.stays hbV)
   obtain ⟨d0,hd0⟩ : ∃ d0,(flat (l.take k)).any (hasId id)=d0:=⟨_,rfl⟩
   rw [hd0]
   have HD0:=lH hd0
   clear hbox hV hle hx hlk hat hat0 hfs hrs hd0
   go_wp2
   rw [← HVV.out]
   go_loopw [9,27] (fun f i wr=>∃ j : Nat,j≤os.length∧i=.int .i64 j∧f=.bool (d0||(os.take j).any (hasId id))∧Alt (fun b=>b=w.heap.size+1) wo wr∧Var (w.heap.size+1) (fnd (flat (l.take k)++os.take j) id) wr∧Var w.heap.size none wr ∧
    ∃ x,wr.heap[wo.heap.size+1]?=some (.cells #[.int .i64 pr,x] 98 (0,0))∧OwnO B' (wo.heap.size+2) (remO id (os.take j) d0) x wr) (fun _ i _=>os.length - (intOf i).toNat)
   case atStart=>exact ⟨0,Nat.zero_le _,rfl,by simp,Alt.of_below hbV,by simpa using HG1.out,HR1.out,_,HBox.out,Own.nil _ _ _⟩
   case round =>
    obtain ⟨wi,rfl⟩ : ∃ wi : World,wi=wr:=⟨_,rfl⟩
    obtain ⟨j,hj,rfl,rfl,hai,hgi,hri,x,hbx,hox⟩:=hrel
    obtain ⟨fl,hfl⟩ : ∃ fl,(d0||(os.take j).any (hasId id))=fl:=⟨_,rfl⟩
    rw [hfl]
    have hle2 : B'.le (wo.heap.size+2):=HLe.out.mono (by omega)
    have hzi : wo.heap.size+1<wi.heap.size:=(Array.getElem?_eq_some_iff.1 hbx).1
    obtain ⟨a3,c3,hx3⟩:=(hox.is (by decide) hle2).len
    subst hx3
    have hga : (flat (l.take k)++os.take j).any (hasId id)=fl:=by rw [List.any_append,HD0.out];exact hfl
    have k0 : wi.cell? ⟨wo.heap.size+1,0,none⟩=some (.int .i64 pr):=by simp [World.cell?,hbx]
    have k1 : wi.cell? ⟨wo.heap.size+1,1,none⟩=some (.slice a3 (remO id (os.take j) d0).length c3):=by simp [World.cell?,hbx]
    by_cases hjm : j<os.length
    ·have hjm2 : (j : Int)<os.length:=by omega
     have hol:=Is.keep eO 70 HX0.out (Keeps.of_alt hai (fun b hb _=>HEx.out b (.inr hb)))
     rcases hol.cases with ⟨e,_⟩ | ⟨_,b2,off2,cc,e,hat2⟩
     ·rw [e] at hjm;cases hjm
     simp only [Value.slice.injEq] at e
     obtain ⟨rfl,_,rfl⟩:=e
     have hbb2:=hat2.1
     obtain ⟨⟨o1,o2,o3,o4,o5⟩,ho⟩ : ∃ o,os[j]=o:=⟨_,rfl⟩
     have hc5:=at5 hat2 j hjm
     rw [ho] at hc5
     simp only at hc5
     obtain ⟨z0,z1,z2,z3,z4⟩:=hc5
     have hts : os.take (j+1)=os.take j++[(o1,o2,o3,o4,o5)]:=by rw [Da.take_snoc hjm,ho]
     have hfn:=fnd_snoc (flat (l.take k)++os.take j) (o1,o2,o3,o4,o5) id
     have hro:=remO_snoc id (o1,o2,o3,o4,o5) (os.take j) d0
     rw [List.append_assoc,← hts,hga] at hfn
     rw [← hts,hfl] at hro
     have hfa : (d0||(os.take (j+1)).any (hasId id))=(fl||hasId id (o1,o2,o3,o4,o5)):=by rw [hts,List.any_append,← Bool.or_assoc,hfl];simp
     have hpg : plain 5 wi (w.heap.size+1)=true:=hgi.plain
     have hzg : w.heap.size+1<wi.heap.size:=hgi.lt
     have HGi:=lH hgi
     have HRi:=lH hri
     have HAi:=lH hai
     have HBx:=lH hbx
     have HOx:=lH hox
     have HFn:=lH hfn
     have HRo:=lH hro
     have HFa:=lH hfa
     have HGa:=lH hga
     clear ho hat2 hol hts hfn hro hfa hgi hri hai hbx hox hga hfl
     by_cases hway : o1=id∧fl=false
     ·obtain ⟨he,rfl⟩:=hway
      have hd : (o1==id)=true:=by simpa using he
      have hh : hasId id (o1,o2,o3,o4,o5)=true:=hd
      have HHh:=lH hh
      clear he k0 k1 hh
      have HRel:=lH (roundA (B':=B') (pr:=pr) (Bo:=wo.heap.size+2) (o:=(o1,o2,o3,o4,o5)) HAi.out HGi.out HRi.out HBx.out HOx.out hle2 (by omega) hzi (by have:=hal.size;omega) (HEx.out _ (.inr rfl)))
      go_wp2
      go_roundw
      case rel=>exact ⟨j+1,by omega,by go_num,by rw [HFa.out,HHh.out];rfl,HRel.out.1,by rw [HFn.out,HHh.out];exact HRel.out.2.1,HRel.out.2.2.1,_,HRel.out.2.2.2.1,by rw [HRo.out,HHh.out,show (true&&!false)=true from rfl,if_pos rfl,List.append_nil];exact HRel.out.2.2.2.2⟩
      case measure=>simp [intOf];omega
     ·obtain ⟨U,hU⟩ : ∃ U,U=wi.alloc (.cells #[.int .i64 o1,.int .i64 o2,.int .i64 o3,.int .i64 o4,.int .i64 o5] 70):=⟨_,rfl⟩
      have hbU : Below wi.heap.size wi U:=hU ▸ below1 wi _
      have hzU : U.heap.size=wi.heap.size+1:=by rw [hU];simp
      obtain ⟨V2,hV2⟩ : ∃ V2,V2=U.alloc (.cells #[.int .i64 o1,.int .i64 o2,.int .i64 o3,.int .i64 o4,.int .i64 o5] 70):=⟨_,rfl⟩
      have hbV2 : Below U.heap.size U V2:=hV2 ▸ below1 U _
      have hzV2 : V2.heap.size=wi.heap.size+2:=by rw [hV2];simp;omega
      have hbUV:=nx hbU hbV2
      have hrm:=remO_len id (os.take j) d0
      rw [List.length_take] at hrm
      have hsrc : Is eO 70 B' [(o1,o2,o3,o4,o5)] (.slice (some ⟨U.heap.size,0,none⟩) 1 1) V2:=by
       rw [hV2];exact Is.one (e:=eO) (T:=70) (B:=B') (x:=(o1,o2,o3,o4,o5)) (cs:=[.int .i64 o1,.int .i64 o2,.int .i64 o3,.int .i64 o4,.int .i64 o5]) (w:=U) (hle2.mono (by omega)) rfl
      obtain ⟨v6,w6,hrun,hown6,_,hbl,_⟩:=Own.append elemO 64 typesO hle2 (by omega) (HOx.out.stays hbUV) hsrc (by simp;omega) (by omega)
      obtain ⟨a6,n6,c7,rfl⟩ : ∃ a n c,v6=.slice a n c:=by obtain ⟨a,c,h⟩:=(hown6.is (by decide) hle2).len;exact ⟨a,_,c,h⟩
      have hlow : Below (wo.heap.size+2) wi w6:=(hbUV.mono (by omega)).trans (hbl _ V2 (Nat.le_refl _) (Below.refl _ _))
      have hbx6 : w6.heap[wo.heap.size+1]?=some (.cells #[.int .i64 pr,.slice a3 (remO id (os.take j) d0).length c3] 98 (0,0)):=(hlow.block _ (by omega)).trans HBx.out
      have hlo:=HLe.out.1
      have HRel:=lH (roundB (B':=B') (Bo:=wo.heap.size+2) HAi.out HGi.out HRi.out hbx6 hown6 hlow hle2 (by omega) (by omega))
      have c6 : w6.cell? ⟨wo.heap.size+1,1,none⟩=some (.slice a3 (remO id (os.take j) d0).length c3):=by simp [World.cell?,hbx6]
      have f6 : w6.frozen? ⟨wo.heap.size+1,1,none⟩=false:=by simp [World.frozen?,hbx6]
      have HNw : Hid ((hasId id (o1,o2,o3,o4,o5)&&!fl)=false):=lH (by
       cases hc : (hasId id (o1,o2,o3,o4,o5)&&!fl)
       ·rfl
       ·exfalso;apply hway;simp [hasId] at hc;exact hc)
      rw [hU] at hV2
      rw [hV2] at hrun
      rw [hU,World.size_alloc] at hrun
      clear hU hV2 hbU hzU hbV2 hzV2 hbUV hrm hsrc hown6 hbl hlow hbx6 hlo
      by_cases he : o1=id
      ·have hd : (o1==id)=true:=by simpa using he
       have hfl : fl=true:=by
        cases fl
        ·exact absurd ⟨he,rfl⟩ hway
        ·rfl
       subst hfl
       clear hway he
       go_wp2
       go_roundw
       case rel=>exact ⟨j+1,by omega,by go_num,by rw [HFa.out];rfl,HRel.out.1,by rw [HFn.out,if_pos rfl];exact HRel.out.2.1,HRel.out.2.2.1,_,HRel.out.2.2.2.1,by rw [HRo.out,HNw.out,if_neg (by decide)];exact HRel.out.2.2.2.2⟩
       case measure=>simp [intOf];omega
      ·have hd : (o1==id)=false:=by simpa using he
       have hh : Hid (hasId id (o1,o2,o3,o4,o5)=false):=lH hd
       have HF2 : Hid (fnd (flat (l.take k)++os.take (j+1)) id=fnd (flat (l.take k)++os.take j) id):=lH (by
        rw [HFn.out,hh.out]
        have ha:=any_some (flat (l.take k)++os.take j) id
        rw [HGa.out] at ha
        cases fl
        ·rw [if_neg (by decide),if_neg (by decide)]
         exact (Option.not_isSome_iff_eq_none.1 (by rw [← ha];decide)).symm
        ·rw [if_pos rfl])
       clear hway he
       go_wp2
       go_roundw
       case rel=>exact ⟨j+1,by omega,by go_num,by rw [HFa.out,hh.out,Bool.or_false],HRel.out.1,by rw [HF2.out];exact HRel.out.2.1,HRel.out.2.2.1,_,HRel.out.2.2.2.1,by rw [HRo.out,HNw.out,if_neg (by decide)];exact HRel.out.2.2.2.2⟩
       case measure=>simp [intOf];omega
    ·obtain rfl : j=os.length:=by omega
     rw [List.take_length] at hgi hfl hox hga k1 hbx
     have hls:=Own.keep (HLe.out.mono (Nat.le_refl _)) HO.out (Keeps.of_alt hai (fun b hb _=>HEx.out b (.inr hb)))
     have hg9 : Var (w.heap.size+1) (fnd (flat (l.take (k+1))) id) wi:=by rw [HFs.out];exact hgi
     have hrl:=remL_len id (l.take k) false
     rw [List.length_take] at hrl
     have hf9 : Hid (((flat (l.take (k+1))).any (hasId id))=fl):=lH (by rw [HFs.out];exact hga)
     have ha9:=HAl.out.trans hai
     obtain ⟨L,hL⟩ : ∃ L,remO id os d0=L:=⟨_,rfl⟩
     have HRs2:=HRs.out
     unfold remS at HRs2
     rw [HD0.out] at HRs2
     simp only at HRs2
     rw [hL] at hox k1 hbx HRs2
     obtain ⟨n3,hn3⟩ : ∃ n3,L.length=n3:=⟨_,rfl⟩
     rw [hn3] at k1 hbx hox
     by_cases hz : L=[]
     ·rw [if_pos hz,List.append_nil] at HRs2
      subst hz
      obtain rfl : 0=n3:=hn3
      have HRel:=lH (show _∧_∧_∧_ from ⟨ha9,HRs2 ▸ hls,hg9,hri⟩)
      clear hls hg9 hrl ha9 HRs2 hL hox hbx hgi hri hai hfl hga
      go_wp2
      go_roundw
      case rel=>exact ⟨k+1,by omega,by go_num,by rw [hf9.out],HRel.out.1,HRel.out.2.1,HRel.out.2.2.1,HRel.out.2.2.2⟩
      case measure=>simp [intOf];omega
     ·rw [if_neg hz] at HRs2
      have hp3 : 0<n3:=by rw [← hn3];exact List.length_pos_iff.2 hz
      have hp4 : (0 : Int)<n3:=by omega
      obtain ⟨U,hU⟩ : ∃ U,U=wi.alloc (.cells #[.int .i64 pr,.slice a3 n3 c3] 98):=⟨_,rfl⟩
      have hbU : Below wi.heap.size wi U:=hU ▸ below1 wi _
      have hzU : U.heap.size=wi.heap.size+1:=by rw [hU];simp
      have hsrc : Is eL 98 B' [(pr,L)] (.slice (some ⟨wi.heap.size,0,none⟩) 1 1) U:=by
       rw [hU];exact Is.one (e:=eL) (T:=98) (B:=B') (x:=(pr,L)) (cs:=[.int .i64 pr,.slice a3 n3 c3]) (w:=wi) (HLe.out.mono (by omega)) (eL_mk (hox.is (by decide) hle2))
      obtain ⟨v8,w8,hrun,hown8,_,hbl,_⟩:=Own.append elemL 23 typesL HLe.out (by omega) (hls.stays hbU) hsrc (by simp;omega) (by omega)
      have hlow : Below (w.heap.size+2) wi w8:=(hbU.mono (by omega)).trans (hbl _ U (Nat.le_refl _) (Below.refl _ _))
      have HRel:=lH (show _∧_∧_∧_ from ⟨alt_low ha9 hlow (by omega),HRs2 ▸ hown8,hg9.same (hlow.block _ (by omega)),hri.same (hlow.block _ (by omega))⟩)
      rw [hU] at hrun
      clear hls hg9 hrl ha9 HRs2 hL hox hbx hgi hri hai hfl hga hn3 hU hbU hzU hsrc hown8 hbl hlow hz
      go_wp2
      go_roundw
      case rel=>exact ⟨k+1,by omega,by go_num,by rw [hf9.out],HRel.out.1,HRel.out.2.1,HRel.out.2.2.1,HRel.out.2.2.2⟩
      case measure=>simp [intOf];omega
  ·obtain rfl : k=n:=by omega
   have e1 : l.take k=l:=by rw [HN.out,List.take_length]
   have hg9:=HVg.out
   have ho9:=HO.out
   rw [e1] at hg9 ho9 ⊢
   rw [HR.out] at hg9
   have hA9 : (flat l).any (hasId id)=r.isSome:=by rw [any_some,HR.out]
   rw [hA9]
   have hrow : row wo (w.heap.size+1)=cO r:=hg9.row
   have hpl : plain 5 wo w.heap.size=true:=HVr.out.plain
   have hcs:=cO_size r
   have h1c : oneAll (.agg (cO r))=true:=by cases r<;>exact one5 _ _ _ _ _
   have hzr : w.heap.size<wo.heap.size:=by omega
   have hzg : w.heap.size+1<wo.heap.size:=by omega
   have HO9:=lH ho9
   clear hal ho9 hg9 e1 hA9
   go_wp2
   have hZ : Below w.heap.size w (wo.setRow w.heap.size (cO r)).drew∧LL B (rem l id) u7 (wo.setRow w.heap.size (cO r)).drew:=by
    have hk9:=Keeps.of_alt (B:=B') (ts:=98 :: eL.ts) (alt_setRow (Alt.refl (fun b=>b=w.heap.size) wo) (b:=w.heap.size) rfl (cO r)) (fun b hb _=>HEx.out b (.inl hb))
    refine ⟨(below_setRow HBo.out (Nat.le_refl _) _).drew,?_⟩
    have:=(HO9.out.is (by decide) HLe.out).keep eL 98 hk9
    exact Is.stays eL 98 (this.up eL 98 HSub.out) (Below.refl _ _).drew
   have hrZ : row (wo.setRow w.heap.size (cO r)) w.heap.size=cO r:=by
    obtain ⟨t,ht⟩:=HVr.out
    unfold Rw.row
    rw [setRow_heap wo w.heap.size _ _ _ _ ht]
   have HZ:=lH hZ
   clear hZ
   go_region
   go_wp2
   refine bodyPost_ret (v:=.tuple #[u7,.agg (cO r),.bool r.isSome]) (ret_OM Tryz.results78 _ _ hcs ?c1) rfl ⟨u7,rfl,HZ.out.1,HZ.out.2⟩
   case c1=>simp [go_sem,hrZ]
end Go.Proofs.YthecinmekoaphaaGreat.Le
