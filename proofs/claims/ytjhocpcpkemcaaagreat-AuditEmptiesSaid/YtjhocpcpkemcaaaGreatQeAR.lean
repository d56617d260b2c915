/- Pure: Put as a loop over the levels. -/
import Derived.Test.YtjhocpcpkemcaaaGreatQeZZ
import Derived.Test.YtjhocpcpkemcaaaGreatQeAQ
import Derived.Test.YtjhocpcpkemcaaaGreatQeAP
set_option linter.unusedVariables false
set_option maxRecDepth 16000
set_option maxHeartbeats 32000000
namespace Go.Proofs.YtjhocpcpkemcaaaGreat.Le
open Go.RowKit
open Rw
open Da
theorem right_snoc {s:Int} {l:List Lv} {k:Nat} (hk:k<l.length) (h:RightL s (l.take k)) (h1:l[k].2≠[]) (h2:k=0∨ahead s (l.getD (k - 1) (0,[])).1 l[k].1=true) (h3:∀ o∈l[k].2,omay o s=true∧opr o=l[k].1) (h4:((flat (l.take k)++l[k].2).map oid).Nodup):RightL s (l.take (k+1)):=by
 obtain ⟨a,b,c,d⟩:=h
 rw [Da.take_snoc hk]
 refine ⟨a,fun v hv=>?_,List.pairwise_append.2 ⟨c,by simp,fun u hu v hv=>?_⟩,by rw [flat_app,flat_cons,flat_nil,List.append_nil];exact h4⟩
 ·rcases List.mem_append.1 hv with hv | hv
  ·exact b v hv
  ·simp at hv;subst hv;exact ⟨h1,h3⟩
 ·simp at hv;subst hv
  obtain ⟨i,hi,rfl⟩:=List.getElem_of_mem hu
  rw [List.length_take] at hi
  rw [List.getElem_take]
  have hk0:k≠0:=by omega
  have h5:ahead s (l.getD (k - 1) (0,[])).1 l[k].1=true:=h2.resolve_left hk0
  have e:l.getD (k - 1) (0,[])=l[k - 1]:=by rw [List.getD_eq_getElem?_getD,List.getElem?_eq_getElem (by omega)];rfl
  rw [e] at h5
  by_cases hik:i=k - 1
  ·subst hik;exact h5
  ·have:=List.pairwise_iff_getElem.1 c i (k - 1) (by rw [List.length_take];omega) (by rw [List.length_take];omega) (by omega)
   rw [List.getElem_take,List.getElem_take] at this
   exact ahead_trans this h5
theorem right_parts {s:Int} {l:List Lv} (h:RightL s l) {k:Nat} (hk:k<l.length):l[k].2≠[]∧(k=0∨ahead s (l.getD (k - 1) (0,[])).1 l[k].1=true)∧(∀ o∈l[k].2,omay o s=true∧opr o=l[k].1)∧((flat (l.take k)++l[k].2).map oid).Nodup:=by
 obtain ⟨a,b,c,d⟩:=h
 have hb:=b _ (List.getElem_mem hk)
 refine ⟨hb.1,?_,hb.2,?_⟩
 ·by_cases hk0:k=0
  ·exact .inl hk0
  ·right
   have e:l.getD (k - 1) (0,[])=l[k - 1]:=by rw [List.getD_eq_getElem?_getD,List.getElem?_eq_getElem (by omega)];rfl
   rw [e]
   exact List.pairwise_iff_getElem.1 c (k - 1) k (by omega) hk (by omega)
 ·rw [← flat_take_snoc hk]
  have e:flat l=flat (l.take (k+1))++flat (l.drop (k+1)):=by rw [← flat_app,List.take_append_drop]
  rw [e,List.map_append] at d
  exact (List.nodup_append.1 d).1
abbrev OwnI (Bo:Nat) (l:List Int) (v:Value) (w:World):Prop:=Own eI 3 (Bs.of Bo) Bo l v w
theorem infoI:(Tryz.prog.info? 3).map (fun i=>(i.zero,i.size,i.bytes))=some (some (.int .i64 0),1,8):=by kernel_rfl
theorem elemI:Elem Tryz.prog 186 3 eI.k 8:=elem_of Tryz.underlying186 infoI rfl (by decide)
theorem typesI:3 ∉ eI.ts:=by decide
theorem at1 {B:Bs} {l:List Int} {b off:Nat} {w:World} (h:Lies eI 3 B l b off w) (i:Nat) (hi:i<l.length):w.cell? ⟨b,off+i,none⟩=some (.int .i64 l[i]):=by
 obtain ⟨cs,rfl,hu⟩:=h.at i hi
 have:=hu 0 _ rfl
 simpa [eI,Enc.flat] using this
theorem nodup_at {l:List Od} {os:List Od} {j:Nat} (hj:j<os.length) (h:((l++os).map oid).Nodup):∀ x∈(l++os.take j).map oid,x≠oid os[j]:=by
 intro x hx e
 have hs:l++os=(l++os.take j)++(os[j] :: os.drop (j+1)):=by rw [List.append_assoc,← List.drop_eq_getElem_cons hj,List.take_append_drop]
 rw [hs,List.map_append,List.nodup_append] at h
 exact h.2.2 x hx (oid os[j]) (List.mem_map_of_mem List.mem_cons_self) e
theorem nodup_snoc {l:List Od} {os:List Od} {j:Nat} (hj:j<os.length) (h:((l++os.take j).map oid).Nodup) (hx:∀ x∈(l++os.take j).map oid,x≠oid os[j]):((l++os.take (j+1)).map oid).Nodup:=by
 rw [Da.take_snoc hj,← List.append_assoc,List.map_append,List.nodup_append]
 exact ⟨h,by simp,fun a ha b hb=>by simp at hb;subst hb;exact hx a ha⟩
theorem rRight_any (B:Bs) (l:List Lv) (v:Value) (s:Int) (w:World) (h:LL B l v w) (hB:B.le w.heap.size) (hm:l.length≤1000000) (hf:(flat l).length≤1000000) :
  Calls Tryz.prog 140 #[v,.int .i64 s] w fun e w'=>e=.returned (.bool (rightL s l))∧Below w.heap.size w w':=by
 by_cases hs:s=1∨s=2
 ·obtain ⟨a1,c1,rfl,h1⟩:=h
  have HA:=lH h1
  have HFl:=lH hf
  obtain ⟨n,hn⟩:∃ n,n=l.length:=⟨_,rfl⟩
  rw [← hn] at hm ⊢
  have HN:=lH hn
  have hside:(s != 1&&s != 2)=false:=by rcases hs with e | e<;>simp [e]
  have HSd:=lH hs
  obtain ⟨r,hr⟩:∃ r,rightL s l=r:=⟨_,rfl⟩
  rw [hr]
  have HR:=lH hr
  have HNo:Hid (¬ RightL s l→r=false):=lH fun h=>by rw [← hr];exact rightL_no h
  clear h1 hn hf hr
  have hcase:(s != 1)=true∧(s != 2)=false∨(s != 1)=false:=by rcases hs with e | e<;>simp [e]
  clear hs hside
  rcases hcase with ⟨d1,d2⟩ | d1
  all_goals
   go_enter Tryz.func140,Tryz.ntmps140
   go_wp2
   go_loopw [5,20] (fun t i wr=>∃ k:Nat,k≤n∧i=.int .i64 k∧Below w.heap.size w wr∧OwnI w.heap.size ((flat (l.take k)).map oid) t wr∧RightL s (l.take k)) (fun _ i _=>n - (intOf i).toNat)
   case atStart=>exact ⟨0,Nat.zero_le _,rfl,Below.refl _ _,Own.nil _ _ _,right_nil HSd.out⟩
   case round =>
    obtain ⟨wo,rfl⟩:∃ wo:World,wo=wr:=⟨_,rfl⟩
    obtain ⟨k,hk,rfl,hb,hown,hrt⟩:=hrel
    have HO:=lH hown
    have HT:=lH hrt
    clear hown hrt
    by_cases hlt:k<n
    ·have hlt2:(k:Int)<n:=by omega
     have hkl:k<l.length:=by rw [← HN.out];exact hlt
     rcases HA.out with ⟨e,_⟩ | ⟨b,off,rfl,hat⟩
     ·rw [e] at hkl;cases hkl
     have hbb:=hat.1
     obtain ⟨x,q0,q1,hx⟩:=atL hat k hkl
     have HX0:=lH (Is.stays eO 74 hx hb)
     obtain ⟨a2,c2,rfl⟩:=hx.len
     have hle:=flat_take_le l (k+1)
     rw [flat_take_snoc hkl,List.length_append] at hle
     have hpt:=lH (fun h:RightL s l=>right_parts h hkl)
     have hsn:=lH (right_snoc hkl HT.out)
     obtain ⟨⟨pr,os⟩,hlk⟩:∃ y,l[k]=y:=⟨_,rfl⟩
     have HLk:=lH hlk
     rw [hlk] at q0 q1 hle HX0 hpt hsn
     simp only at q0 q1 hle HX0 hpt hsn
     have HLe:Hid ((flat (l.take k)).length+os.length≤1000000):=lH (by have:=HFl.out;omega)
     obtain ⟨c1',f1,r1,p1⟩:=bcell hb
     have hsz:=hb.size
     obtain ⟨V,hV⟩:∃ V,V=wo.alloc (.cells #[.int .i64 pr,.slice a2 os.length c2] 106):=⟨_,rfl⟩
     have hbV:Below wo.heap.size wo V:=hV ▸ below1 wo _
     have hzV:wo.heap.size<V.heap.size:=by rw [hV];simp
     have hbox:V.heap[wo.heap.size]?=some (.cells #[.int .i64 pr,.slice a2 os.length c2] 106 (0,0)):=by rw [hV];exact heap_alloc_new wo _
     have s0:V.cell? ⟨wo.heap.size,0,none⟩=some (.int .i64 pr):=by rw [hV];simp [go_sem]
     have s1:V.cell? ⟨wo.heap.size,1,none⟩=some (.slice a2 os.length c2):=by rw [hV];simp [go_sem]
     have hbw:=nx hb hbV
     have hF:∀ u,Below V.heap.size V u→u.cell? ⟨wo.heap.size,0,none⟩=some (.int .i64 pr)∧u.cell? ⟨wo.heap.size,1,none⟩=some (.slice a2 os.length c2):=fun u hu =>
      ⟨by rw [hu.cell (p:=⟨wo.heap.size,0,none⟩) hzV];exact s0,by rw [hu.cell (p:=⟨wo.heap.size,1,none⟩) hzV];exact s1⟩
     have HBox:=lH hbox
     have HV:=lH hV
     clear hbox hV hle s0 s1 hx hlk
     by_cases hos:os=[]
     ·have HZ:Hid (r=false):=lH (HNo.out fun h=>(hpt.out h).1 hos)
      have hd:((os.length:Int)==0)=true:=by rw [hos];rfl
      clear hos
      go_wp2
      rw [← HV.out]
      refine Rf.rg [0,1,2,3,4,5,6,7,8,9,10,11,12,13,14,15,16,17,18,19,20] ?_
      repeat (first | (refine Rf.Steps.sk ?_;simp only [Act.put,sA,sB,sC]) | (refine Rf.Steps.pu (v:=?_) ?_ ?_;rotate_left;(intro w_ hS_;have hk_:=hF w_ hS_;go_simp<;>with_reducible rfl);simp only [Act.put,sA,sB,sC]))
      refine Rf.Steps.nil (by kernel_rfl) ?_
      intro w4 hb6
      go_wp2
      go_ret
      exact ⟨ret_bool HZ.out.symm,nx hbw hb6⟩
     ·have hpos:0<os.length:=List.length_pos_iff.2 hos
      have hd:((os.length:Int)==0)=false:=by simp;omega
      have HOs:=lH hos
      have hosl:os.length≤1000000:=by have:=HLe.out;omega
      clear hos
      have hway:(k=0∧decide ((0:Int)<(k:Int))=false)∨(0<k∧decide ((0:Int)<(k:Int))=true):=by
       rcases Nat.eq_zero_or_pos k with e | e
       ·exact .inl ⟨e,by simp [e]⟩
       ·exact .inr ⟨e,by simpa using e⟩
      rcases hway with ⟨hk0,d3⟩ | ⟨hk0,d3⟩
      case' inl =>
       have d3':decide (0<k)=false:=by simp [hk0]
       have HAh:Hid (k=0∨ahead s (l.getD (k - 1) (0,[])).1 pr=true):=lH (.inl hk0)
       have HK0:=lH hk0
       clear hk0
       go_wp2
       rw [← HV.out]
       refine Rf.rg [0,1,2,3,4,5,6,7,8,9,10,11,12,13,14,15,16,17,18,19,20] ?_
       repeat (first | (refine Rf.Steps.sk ?_;simp only [Act.put,sA,sB,sC]) | (refine Rf.Steps.pu (v:=?_) ?_ ?_;rotate_left;(intro w_ hS_;have hk_:=hF w_ hS_;go_simp<;>with_reducible rfl);simp only [Act.put,sA,sB,sC]))
       refine Rf.Steps.nil (by kernel_rfl) ?_
       intro w4 hb6
      case' inr =>
       have d3':decide (0<k)=true:=by simpa using hk0
       have hkp:k - 1<l.length:=by omega
       obtain ⟨x',t0,t1,_⟩:=atL hat (k - 1) hkp
       have e9:l.getD (k - 1) (0,[])=l[k - 1]:=by rw [List.getD_eq_getElem?_getD,List.getElem?_eq_getElem hkp];rfl
       obtain ⟨pp,hpp⟩:∃ pp,l[k - 1].1=pp:=⟨_,rfl⟩
       rw [hpp] at t0
       have HPp:Hid ((l.getD (k - 1) (0,[])).1=pp):=lH (by rw [e9];exact hpp)
       have d4:IntKind.i64.wrap ((k:Int) - 1)=(k:Int) - 1:=IntWalk.i64_in _ (by omega)
       have d5:((k:Int) - 1).toNat=k - 1:=by omega
       have d6:(0:Int)≤(k:Int) - 1:=by omega
       have d6':(1:Int)≤(k:Int):=by omega
       have d7:(k:Int) - 1<n:=by omega
       have hF2:∀ u,Below V.heap.size V u→(u.cell? ⟨wo.heap.size,0,none⟩=some (.int .i64 pr)∧u.cell? ⟨wo.heap.size,1,none⟩=some (.slice a2 os.length c2))∧u.cell? ⟨b,off+(k - 1)*2,none⟩=some (.int .i64 pp):=fun u hu =>
        ⟨hF u hu,by rw [(nx hbw hu).cell (p:=⟨b,off+(k - 1)*2,none⟩) hbb];exact t0⟩
       clear e9 hpp t1 t0
       cases hah:ahead s pp pr
       ·have HQ:=lH hah
        have HZ:Hid (r=false):=lH (HNo.out fun h=>by
         rcases (hpt.out h).2.1 with e | e
         ·omega
         ·rw [HPp.out,hah] at e;cases e)
        clear hah
        go_wp2
        rw [← HV.out]
        refine Rf.rg [0,1,2,3,4,5,6,7,8,9,10,11,12,13,14,15,16,17,18,19,20] ?_
        repeat (first | (refine Rf.Steps.sk ?_;simp only [Act.put,sA,sB,sC]) | (refine Rf.Steps.pu (v:=?_) ?_ ?_;rotate_left;(intro w_ hS_;have hk_:=hF2 w_ hS_;go_simp<;>with_reducible rfl);simp only [Act.put,sA,sB,sC]) | (refine Rf.Steps.ca (v:=?_) (f:=?_) (args:=?_) ?_ ?_ ?_;rotate_left 3;(intro w_ hS_;have hk_:=hF2 w_ hS_;go_simp<;>first | with_reducible rfl | (constructor<;>with_reducible rfl));(intro w_ hS_;have hk_:=hF2 w_ hS_;first | (go_at_call 172;refine (rAhead_is HQ _).mono ?_;first | (rintro e w_ ⟨rfl,rfl⟩;refine ⟨?_,Below.refl _ _⟩;with_reducible rfl) | (rintro e w_ ⟨rfl,hb_⟩;refine ⟨?_,hb_⟩;with_reducible rfl)));simp only [Act.put,sA,sB,sC]))
        refine Rf.Steps.nil (by kernel_rfl) ?_
        intro w4 hb6
        go_wp2
        go_ret
        exact ⟨ret_bool HZ.out.symm,nx hbw hb6⟩
       have HQ:=lH hah
       have HAh:Hid (k=0∨ahead s (l.getD (k - 1) (0,[])).1 pr=true):=lH (.inr (by rw [HPp.out];exact hah))
       clear hah
       go_wp2
       rw [← HV.out]
       refine Rf.rg [0,1,2,3,4,5,6,7,8,9,10,11,12,13,14,15,16,17,18,19,20] ?_
       repeat (first | (refine Rf.Steps.sk ?_;simp only [Act.put,sA,sB,sC]) | (refine Rf.Steps.pu (v:=?_) ?_ ?_;rotate_left;(intro w_ hS_;have hk_:=hF2 w_ hS_;go_simp<;>with_reducible rfl);simp only [Act.put,sA,sB,sC]) | (refine Rf.Steps.ca (v:=?_) (f:=?_) (args:=?_) ?_ ?_ ?_;rotate_left 3;(intro w_ hS_;have hk_:=hF2 w_ hS_;go_simp<;>first | with_reducible rfl | (constructor<;>with_reducible rfl));(intro w_ hS_;have hk_:=hF2 w_ hS_;first | (go_at_call 172;refine (rAhead_is HQ _).mono ?_;first | (rintro e w_ ⟨rfl,rfl⟩;refine ⟨?_,Below.refl _ _⟩;with_reducible rfl) | (rintro e w_ ⟨rfl,hb_⟩;refine ⟨?_,hb_⟩;with_reducible rfl)));simp only [Act.put,sA,sB,sC]))
       refine Rf.Steps.nil (by kernel_rfl) ?_
       intro w4 hb6
       clear hF2
      all_goals
       have hF4:=hF w4 hb6
       obtain ⟨g0,g1⟩:=hF4
       have hz4:wo.heap.size<w4.heap.size:=by have:=hb6.size;omega
       have hN0:=HT.out.2.2.2
       have hst1:=HO.out.stays (nx hbV hb6)
       have hst2:=Is.stays eO 74 (Is.stays eO 74 HX0.out hbV) hb6
       have hst3:=(hb6.block _ hzV).trans HBox.out
       have HSt:=lH (show _∧_∧_∧_ from ⟨hN0,hst1,hst2,hst3⟩)
       clear hN0 hst1 hst2 hst3 hF
       go_wp2
       go_loopw [5,49] (fun t i wr=>∃ j:Nat,j≤os.length∧i=.int .i64 j∧Below w.heap.size w wr∧wr.heap[wo.heap.size]?=some (.cells #[.int .i64 pr,.slice a2 os.length c2] 106 (0,0))∧OL B os (.slice a2 os.length c2) wr ∧
        OwnI w.heap.size ((flat (l.take k)++os.take j).map oid) t wr∧(∀ o∈os.take j,omay o s=true∧opr o=pr)∧((flat (l.take k)++os.take j).map oid).Nodup) (fun _ i _=>os.length - (intOf i).toNat)
       case atStart=>exact ⟨0,Nat.zero_le _,rfl,nx hbw hb6,HSt.out.2.2.2,HSt.out.2.2.1,by simpa using HSt.out.2.1,by simp,by simpa using HSt.out.1⟩
       case round =>
        obtain ⟨wi,rfl⟩:∃ wi:World,wi=wr:=⟨_,rfl⟩
        obtain ⟨j,hj,rfl,hbi,hbox,hol,hoi,hok,hnd⟩:=hrel
        have HBx:=lH hbox
        have HOi:=lH hoi
        have HOk:=lH hok
        have HNd:=lH hnd
        have HOl:=lH hol
        have hzi:wo.heap.size<wi.heap.size:=(Array.getElem?_eq_some_iff.1 hbox).1
        have k0:wi.cell? ⟨wo.heap.size,0,none⟩=some (.int .i64 pr):=by simp [World.cell?,hbox]
        clear hbox hoi hok hnd
        by_cases hjm:j<os.length
        ·have hjm2:(j:Int)<os.length:=by omega
         rcases hol.cases with ⟨e,_⟩ | ⟨_,b2,off2,cc,e,hat2⟩
         ·exact absurd e HOs.out
         simp only [Value.slice.injEq] at e
         obtain ⟨rfl,_,rfl⟩:=e
         have hbb2:=hat2.1
         obtain ⟨⟨o1,o2,o3,o4,o5⟩,ho⟩:∃ o,os[j]=o:=⟨_,rfl⟩
         have hc5:=at5 hat2 j hjm
         rw [ho] at hc5
         simp only at hc5
         obtain ⟨z0,z1,z2,z3,z4⟩:=hc5
         have HOo:=lH ho
         clear ho hat2 hol
         cases hom:omay (o1,o2,o3,o4,o5) s
         ·have HM:=lH hom
          have HZ:Hid (r=false):=lH (HNo.out fun h=>by
           have:=((hpt.out h).2.2.1 os[j] (List.getElem_mem hjm)).1
           rw [HOo.out,hom] at this;cases this)
          clear hom
          go_wp2_with fail
          refine (rOmay_is HM _).mono ?_
          rintro e w5 ⟨rfl,hb5⟩
          go_wp2
          go_ret
          exact ⟨ret_bool HZ.out.symm,nx hbi (nx (below1 _ _) hb5)⟩
         ·have HM:=lH hom
          by_cases hpr:o4=pr
          ·have hdp:(o4 != pr)=false:=by simpa using hpr
           have HPr:=lH hpr
           clear hpr hom
           go_wp2_with fail
           refine (rOmay_is HM _).mono ?_
           rintro e w5 ⟨rfl,hb5⟩
           have hU:=nx (below1 wi (.cells #[.int .i64 o1,.int .i64 o2,.int .i64 o3,.int .i64 o4,.int .i64 o5] 74)) hb5
           have m0:w5.cell? ⟨wo.heap.size,0,none⟩=some (.int .i64 pr):=by rw [hU.cell (p:=⟨wo.heap.size,0,none⟩) hzi];exact k0
           have m1:w5.cell? ⟨wi.heap.size,0,none⟩=some (.int .i64 o1):=by rw [hb5.cell (p:=⟨wi.heap.size,0,none⟩) (by simp)];simp [go_sem]
           have m3:w5.cell? ⟨wi.heap.size,3,none⟩=some (.int .i64 o4):=by rw [hb5.cell (p:=⟨wi.heap.size,3,none⟩) (by simp)];simp [go_sem]
           have hz5:wi.heap.size<w5.heap.size:=by have:=hb5.size;simp at this;omega
           have hI5:=HOi.out.stays hU
           obtain ⟨L,hL⟩:∃ L,(flat (l.take k)++os.take j).map oid=L:=⟨_,rfl⟩
           rw [hL] at hI5
           have HL:=lH hL
           have HI5:=lH hI5
           obtain ⟨a3,c3,he3,hel⟩:=hI5.is (by decide) (Bs.of_le _)
           subst he3
           have HEl:=lH hel
           have hLl:L.length≤1000000:=by
            rw [← hL,List.length_map,List.length_append,List.length_take]
            have:=HLe.out;omega
           clear hL hI5 hel
           go_wp2
           go_loop [66] (fun i=>∃ q:Nat,q≤L.length∧i=.int .i64 q∧∀ x∈L.take q,x≠o1) (fun i=>L.length - (intOf i).toNat)
           case atStart=>exact ⟨0,Nat.zero_le _,rfl,by simp⟩
           case round =>
            obtain ⟨q,hq,rfl,hqn⟩:=hrel
            have HQn:=lH hqn
            clear hqn
            by_cases hqL:q<L.length
            ·have hqL2:(q:Int)<L.length:=by omega
             rcases HEl.out with ⟨e,_⟩ | ⟨b3,off3,rfl,hat3⟩
             ·rw [e] at hqL;cases hqL
             have y0:=at1 hat3 q hqL
             obtain ⟨y,hy⟩:∃ y,L[q]=y:=⟨_,rfl⟩
             rw [hy] at y0
             have HY:=lH hy
             clear hy hat3
             by_cases hye:y=o1
             ·have hdy:(y==o1)=true:=by simpa using hye
              have HZ:Hid (r=false):=lH (HNo.out fun h=>by
               have:=nodup_at hjm (hpt.out h).2.2.2 L[q] (by rw [HL.out];exact List.getElem_mem hqL)
               rw [HY.out,HOo.out] at this
               exact this hye)
              clear hye
              go_wp2
              go_ret
              exact ⟨ret_bool HZ.out.symm,nx hbi hU⟩
             ·have hdy:(y==o1)=false:=by simpa using hye
              have HQ2:Hid (∀ x∈L.take (q+1),x≠o1):=lH (by
               rw [Da.take_snoc hqL,HY.out]
               intro x hx
               rcases List.mem_append.1 hx with hx | hx
               ·exact HQn.out x hx
               ·simp at hx;rw [hx];exact hye)
              clear hye
              go_wp2
              go_round
              case rel=>exact ⟨q+1,by omega,by go_num,HQ2.out⟩
              case measure=>simp [intOf];omega
            ·obtain rfl:q=L.length:=by omega
             have hall:∀ x∈L,x≠o1:=by have:=HQn.out;rwa [List.take_length] at this
             have HAl:=lH hall
             have hb6':=below1 w5 (.cells #[.int .i64 o1] 3)
             obtain ⟨v6,w6,hrun,hown6,_,hbl,hkp⟩:=Own.append elemI 186 typesI (Bs.of_le _) (by have:=hbi.size;have:=hU.size;simp;omega) (HI5.out.stays hb6') (Is.one (e:=eI) (T:=3) (B:=Bs.of w.heap.size) (x:=o1) (cs:=[.int .i64 o1]) (w:=w5) ((Bs.of_le _).mono (by have:=hbi.size;have:=hU.size;omega)) rfl) (by simp;omega) (by omega)
             have hbw6:=hbl _ _ (Nat.le_refl _) (nx (nx hbi hU) hb6')
             have hbx6:w6.heap[wo.heap.size]?=some (.cells #[.int .i64 pr,.slice (some ⟨b2,off2,none⟩) os.length c2] 106 (0,0)) :=
              (hkp [106] (by decide)).block _ _ (((nx hU hb6').block _ hzi).trans HBx.out) (.inr ⟨_,_,_,rfl,by simp,fun h=>h⟩)
             have hol6:OL B os (.slice (some ⟨b2,off2,none⟩) os.length c2) w6:=Is.keep eO 74 (Is.stays eO 74 HOl.out (nx hU hb6')) ((hkp _ (by decide)).low (Bs.sub_of hB))
             have hoi6:OwnI w.heap.size ((flat (l.take k)++os.take (j+1)).map oid) v6 w6:=by
              rw [Da.take_snoc hjm,← List.append_assoc,List.map_append,HL.out,HOo.out];exact hown6
             have hok6:∀ o∈os.take (j+1),omay o s=true∧opr o=pr:=by
              rw [Da.take_snoc hjm]
              intro o ho
              rcases List.mem_append.1 ho with ho | ho
              ·exact HOk.out o ho
              ·simp only [List.mem_singleton] at ho;rw [ho,HOo.out];exact ⟨HM.out,HPr.out⟩
             have hnd6:((flat (l.take k)++os.take (j+1)).map oid).Nodup:=nodup_snoc hjm HNd.out (by rw [HL.out,HOo.out];exact HAl.out)
             have HRel:=lH (show _∧_∧_∧_∧_∧_ from ⟨hbw6,hbx6,hol6,hoi6,hok6,hnd6⟩)
             clear hall hbl hkp hown6 hbw6 hbx6 hol6 hoi6 hok6 hnd6 hb6'
             go_wp2
             go_roundw
             case rel=>exact ⟨j+1,by omega,by go_num,HRel.out.1,HRel.out.2.1,HRel.out.2.2.1,HRel.out.2.2.2.1,HRel.out.2.2.2.2.1,HRel.out.2.2.2.2.2⟩
             case measure=>simp [intOf];omega
          ·have hdp:(o4 != pr)=true:=by simpa using hpr
           have HZ:Hid (r=false):=lH (HNo.out fun h=>by
            have:=((hpt.out h).2.2.1 os[j] (List.getElem_mem hjm)).2
            rw [HOo.out] at this;exact hpr this)
           clear hpr hom
           go_wp2_with fail
           refine (rOmay_is HM _).mono ?_
           rintro e w5 ⟨rfl,hb5⟩
           have m0:w5.cell? ⟨wo.heap.size,0,none⟩=some (.int .i64 pr):=by rw [(nx (below1 _ _) hb5).cell (p:=⟨wo.heap.size,0,none⟩) hzi];exact k0
           have m3:w5.cell? ⟨wi.heap.size,3,none⟩=some (.int .i64 o4):=by rw [hb5.cell (p:=⟨wi.heap.size,3,none⟩) (by simp)];simp [go_sem]
           go_wp2
           go_ret
           exact ⟨ret_bool HZ.out.symm,nx hbi (nx (below1 _ _) hb5)⟩
        ·obtain rfl:j=os.length:=by omega
         have hoi2:=HOi.out
         have hok2:=HOk.out
         have hnd2:=HNd.out
         rw [List.take_length] at hoi2 hok2 hnd2
         have hrt2:=hsn.out HOs.out HAh.out hok2 hnd2
         have e2:flat (l.take (k+1))=flat (l.take k)++os:=by rw [flat_take_snoc hkl,HLk.out]
         rw [← e2] at hoi2
         have HRel:=lH (show _∧_∧_ from ⟨hbi,hoi2,hrt2⟩)
         clear hoi2 hok2 hnd2 hrt2 e2 hol k0
         go_wp2
         go_roundw
         case rel=>exact ⟨k+1,by omega,by go_num,HRel.out.1,HRel.out.2.1,HRel.out.2.2⟩
         case measure=>simp [intOf];omega
    ·obtain rfl:k=n:=by omega
     have HZ:Hid (r=true):=lH (by rw [← HR.out];refine rightL_iff.2 ?_;have:=HT.out;rwa [HN.out,List.take_length] at this)
     go_wp2
     go_ret
     exact ⟨ret_bool HZ.out.symm,hb⟩
 ·have HZ:Hid (rightL s l=false):=lH (rightL_no fun h=>hs h.1)
  have d1:(s != 1)=true:=by simp;omega
  have d2:(s != 2)=true:=by simp;omega
  clear hs h
  go_enter Tryz.func140,Tryz.ntmps140
  go_wp2
  go_ret
  exact ⟨ret_bool HZ.out.symm,Below.refl _ _⟩
def cO:Option Od→Array Value
 | some o=>#[.int .i64 o.1,.int .i64 o.2.1,.int .i64 o.2.2.1,.int .i64 o.2.2.2.1,.int .i64 o.2.2.2.2]
 | none=>#[.int .i64 0,.int .i64 0,.int .i64 0,.int .i64 0,.int .i64 0]
theorem cO_size (r:Option Od):(cO r).size=5:=by cases r<;>rfl
def Var (b:Nat) (r:Option Od) (w:World):Prop:=∃ t,w.heap[b]?=some (.cells (cO r) t (0,0))
theorem Var.same {b:Nat} {r:Option Od} {w w':World} (h:Var b r w) (e:w'.heap[b]?=w.heap[b]?):Var b r w':=by
 obtain ⟨t,h⟩:=h;exact ⟨t,e.trans h⟩
theorem Var.lt {b:Nat} {r:Option Od} {w:World} (h:Var b r w):b<w.heap.size:=by obtain ⟨t,h⟩:=h;exact (Array.getElem?_eq_some_iff.1 h).1
theorem Var.stays {b:Nat} {r:Option Od} {w w':World} (h:Var b r w) (k:Below w.heap.size w w'):Var b r w':=h.same (k.block b h.lt)
theorem Var.row {b:Nat} {r:Option Od} {w:World} (h:Var b r w):row w b=cO r:=by obtain ⟨t,h⟩:=h;unfold Rw.row;rw [h]
theorem Var.plain {b:Nat} {r:Option Od} {w:World} (h:Var b r w):plain 5 w b=true:=by obtain ⟨t,h⟩:=h;unfold Rw.plain;rw [h];simp [cO_size]
theorem Var.set {b:Nat} {r:Option Od} {w:World} (r':Option Od) (h:Var b r w):Var b r' (w.setRow b (cO r')):=by
 obtain ⟨t,h⟩:=h;exact ⟨t,setRow_heap w b _ _ _ _ h⟩
theorem Var.made (w:World):Var w.heap.size none (w.alloc (.cells #[.int .i64 0,.int .i64 0,.int .i64 0,.int .i64 0,.int .i64 0] 74)):=⟨_,heap_alloc_new w _⟩
theorem alt_setRow {X:Nat→Prop} {a w:World} (h:Alt X a w) {b:Nat} (hb:X b) (c:Array Value):Alt X a (w.setRow b c) :=
 h.trans ⟨rfl,rfl,rfl,by rw [setRow_size];exact Nat.le_refl _,fun i _ hx=>setRow_other w b i c (fun e=>hx (by rw [e];exact hb))⟩
theorem low_setCell {w:World} {b n:Nat} (o:Nat) (v:Value) (h:n≤b):Below n w (w.setCell ⟨b,o,none⟩ v) :=
 ⟨rfl,rfl,rfl,by simp [World.setCell],fun i hi=>Below.heap_setCell w ⟨b,o,none⟩ v i (by show i≠b;omega)⟩
theorem keeps_setCell {B:Bs} {ts:List TypeId} {w:World} {b:Nat} {cur:Array Value} {t:TypeId} {fr:Nat × Nat} (o:Nat) (v:Value) (h:w.heap[b]?=some (.cells cur t fr)) (ht:t ∉ ts) (hB:B.lo≤b):Keeps B ts w (w.setCell ⟨b,o,none⟩ v) :=
 ⟨by simp [World.setCell],fun i ob hi ho=>by
  by_cases e:i=b
  ·subst e
   rw [h] at hi
   obtain rfl:=Option.some.inj hi
   rcases ho with ho | ⟨_,_,_,he,hm,_⟩
   ·omega
   ·simp only [Obj.cells.injEq] at he
    exact absurd (he.2.1 ▸ hm) ht
  ·exact (Below.heap_setCell w ⟨b,o,none⟩ v i e).trans hi⟩
def Post3 (F:Value→World→Prop) (r:Option Od) (w:World) (e:Ending) (w':World):Prop:=∃ v,e=.returned (.tuple #[v,.agg (cO r),.bool r.isSome])∧Below w.heap.size w w'∧F v w'
theorem ownO_grown {B:Bs} {Bo:Nat} {l:List Od} {v:Value} {w w':World} {ob:Option Nat} (h:OwnO B Bo l v w) (hg:w.grownBy w' ob) (ho:∀ g,v.ownBlock=some g→ob≠some g):OwnO B Bo l v w':=by
 obtain ⟨css,hl,hc,hr⟩:=h
 refine ⟨css,hl,hc,hr.1,?_⟩
 rcases hr.2 with h | ⟨g,cap,cur,rfl,h2,h3,h4⟩
 ·exact .inl h
 ·exact .inr ⟨g,cap,cur,rfl,h2,(hg.block g (Array.getElem?_eq_some_iff.1 h3).1 fun e=>ho g rfl e.symm).trans h3,h4⟩
structure LvS (B:Bs) (L:List Lv) (ms:List Hw) (w:World):Prop where
 len:ms.length=L.length
 at':∀ (i:Nat) (x:Lv) (y:Hw),L[i]?=some x→ms[i]?=some y→y.1=x.1∧OL B x.2 (hv y) w
theorem LvS.keep {B:Bs} {L:List Lv} {ms:List Hw} {w w':World} (h:LvS B L ms w) (hk:Keeps B [74] w w'):LvS B L ms w' :=
 ⟨h.len,fun i x y hx hy=>⟨(h.at' i x y hx hy).1,Is.keep eO 74 (h.at' i x y hx hy).2 hk⟩⟩
theorem LvS.nil (B:Bs) (w:World):LvS B [] [] w:=⟨rfl,by simp⟩
theorem LvS.ll {B:Bs} {L:List Lv} {ms:List Hw} {t:Value} {w:World} (h:LvS B L ms w) (ht:Is eF 106 B ms t w):LL B L t w:=by
 obtain ⟨a,c,rfl,hc⟩:=ht
 refine ⟨a,c,by rw [h.len],?_⟩
 rcases hc with ⟨rfl,hc⟩ | ⟨b,off,rfl,hb,hb2,hat⟩
 ·exact .inl ⟨List.length_eq_zero_iff.1 h.len.symm,hc⟩
 ·refine .inr ⟨b,off,rfl,hb,hb2,fun i x hx=>?_⟩
  have hi:i<ms.length:=by rw [h.len];exact (List.getElem?_eq_some_iff.1 hx).1
  obtain ⟨cs,hcs,hu⟩:=hat i _ (List.getElem?_eq_getElem hi)
  obtain ⟨hp,hy⟩:=h.at' i x _ hx (List.getElem?_eq_getElem hi)
  refine ⟨cs,?_,hu⟩
  rw [show cs=[.int .i64 ms[i].1,hv ms[i]] from hcs,hp]
  exact eL_mk hy
section
variable {B:Bs} {w3 w4:World} {l:List Lv} {hs:List Hw} {a:Option Addr} {k:Nat} {L:List Lv} {ms:List Hw} {d:Bool} {u u':World}
end
theorem fV_is (q:Option Od):fV q=.tuple #[.agg (cO q),.bool q.isSome]:=by cases q<;>rfl
def PostP (B:Bs) (l:List Lv) (o:Od) (w:World) (e:Ending) (w':World):Prop:=∃ t,e=.returned (.tuple #[t,.int .i64 (putE l o)])∧Below w.heap.size w w'∧LL B (put l o) t w'
end Go.Proofs.YtjhocpcpkemcaaaGreat.Le
