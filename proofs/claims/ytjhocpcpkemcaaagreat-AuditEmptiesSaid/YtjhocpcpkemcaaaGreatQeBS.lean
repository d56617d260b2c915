/- Package book as it landed: match. -/
import Derived.Test.YtjhocpcpkemcaaaGreatQeZZ
import Derived.Test.YtjhocpcpkemcaaaGreatQeAU
import Derived.Test.YtjhocpcpkemcaaaGreatQeBH
import Derived.Test.YtjhocpcpkemcaaaGreatQeBR
set_option linter.unusedVariables false
set_option maxRecDepth 16000
set_option maxHeartbeats 32000000
namespace Go.Proofs.YtjhocpcpkemcaaaGreat.Bk
open Go.RowKit
open Rw
open Da
open Le
theorem fill_app {B:Bs} {n cg:Nat} {ag:Option Addr} {gs:List Fl} {V:World} (o1 o2 o3 o4 o5 n0:Int) (d:Bool) (hd:d=decide (n0=o5)) (hBn:B.le n) (hsz:n≤V.heap.size) (hown:OwnFl B n gs (.slice ag gs.length cg) V) (hgl:gs.length≤1000000) :
  ∃ v8 w8,appRun Tryz.prog 122 122 (.slice ag gs.length cg) (.slice (some ⟨V.heap.size,0,none⟩) 1 1) (V.alloc (.cells #[.int .i64 o1,.int .i64 o2,.int .i64 o4,.int .i64 n0,.bool d] 159))=.ok v8 w8∧OwnFl B n (gs++[mkF (o1,o2,o3,o4,o5) n0]) v8 w8∧Below n V w8∧Keeps B [74] V w8:=by
 subst hd
 obtain ⟨U,hU⟩:∃ U,U=V.alloc (.cells #[.int .i64 o1,.int .i64 o2,.int .i64 o4,.int .i64 n0,.bool (decide (n0=o5))] 159):=⟨_,rfl⟩
 have hbU:Below V.heap.size V U:=hU ▸ below1 V _
 have hzU:U.heap.size=V.heap.size+1:=by rw [hU];simp
 have hsrc:Is eFl 159 B [mkF (o1,o2,o3,o4,o5) n0] (.slice (some ⟨V.heap.size,0,none⟩) 1 1) U:=by
  rw [hU];exact Is.one (e:=eFl) (T:=159) (B:=B) (x:=mkF (o1,o2,o3,o4,o5) n0) (cs:=[.int .i64 o1,.int .i64 o2,.int .i64 o4,.int .i64 n0,.bool (decide (n0=o5))]) (w:=V) (hBn.mono (by omega)) rfl
 obtain ⟨v8,w8,hrun,hown8,_,hbl,hkp⟩:=Own.append elemFl 122 typesFl hBn (by omega) (Own.stays hown hbU) hsrc (by simp only [List.length_singleton];omega) (by omega)
 rw [hU] at hrun
 exact ⟨v8,w8,hrun,hown8,(hbU.mono (by omega)).trans (hbl _ U (Nat.le_refl _) (Below.refl _ _)),(Keeps.of_below hbU).trans (hkp _ (by decide))⟩
def MaP (B:Bs) (r:Option (List Fl × Int)) (w:World) (e:Ending) (w':World):Prop :=
 ∃ fv lf er,e=.returned (.tuple #[fv,.int .i64 lf,.int .i64 er])∧Below w.heap.size w w'∧er=(if r.isSome then 0 else 11)∧(∃ a n c,fv=.slice a n c)∧∀ x,r=some x→lf=x.2∧FL B x.1 fv w'
theorem row_below {w w':World} {n b:Nat} (h:Below n w w') (hb:b<n):Rw.row w' b=Rw.row w b:=by unfold Rw.row;rw [h.block b hb]
theorem match_any (B:Bs) (l:List Lv) (v:Value) (i ow s p q:Int) (w:World) (h:LL B l v w) (hB:B.le w.heap.size) (hm:l.length≤1000000) (hf:(flat l).length≤1000000) (hq:0≤q∧q≤1048576) (hl:∀ o∈flat l,0≤olf o∧olf o≤1048576) :
  Calls Tryz.prog 187 #[v,.agg #[.int .i64 i,.int .i64 ow,.int .i64 s,.int .i64 p,.int .i64 q]] w (MaP B (tr ow s p (flat l) q) w):=by
 obtain ⟨a1,c1,rfl⟩:=h.len
 obtain ⟨os,hos⟩:∃ os,flat l=os:=⟨_,rfl⟩
 have HOl:=lH hl
 rw [hos] at HOl ⊢
 have hm2:os.length≤1000000:=by rw [← hos];exact hf
 obtain ⟨U,hU⟩:∃ U,U=w.alloc (.cells #[.int .i64 i,.int .i64 ow,.int .i64 s,.int .i64 p,.int .i64 q] 74):=⟨_,rfl⟩
 have hbU:Below w.heap.size w U:=hU ▸ below1 w _
 have hzU:U.heap.size=w.heap.size+1:=by rw [hU];simp
 have m0:U.cell? ⟨w.heap.size,4,none⟩=some (.int .i64 q):=by rw [hU];simp [go_sem]
 have HX:=lH h
 have HOs:=lH hos
 have HU:=lH hU
 obtain ⟨W,hW⟩:∃ W,W=(U.alloc (.cells #[] 159)).drew:=⟨_,rfl⟩
 have hbW:Below U.heap.size U W:=hW ▸ (below1 U _).drew
 have hzW:W.heap.size=w.heap.size+2:=by rw [hW];simp [hzU]
 have hbw:=nx hbU hbW
 have hownW:OwnFl B (w.heap.size+1) [] (.slice (some ⟨w.heap.size+1,0,none⟩) 0 0) W:=by
  have:=Own.made (e:=eFl) (T:=159) B U U.heap.size (Nat.le_refl _)
  rw [hzU] at this
  rw [hW];exact this.stays (Below.refl _ _).drew
 have hrow:Rw.row U w.heap.size=#[.int .i64 i,.int .i64 ow,.int .i64 s,.int .i64 p,.int .i64 q]:=by rw [HU.out];unfold Rw.row;rw [heap_alloc_new]
 have HOw0:=lH hownW
 have HW:=lH hW
 have HRow:=lH hrow
 have hLW:LL B l (.slice a1 l.length c1) W:=Is.stays eL 106 h hbw
 have HLW:=lH hLW
 have HBW:Hid (B.le W.heap.size):=lH (hB.mono hbw.size)
 rw [hzU] at hbW
 clear h hl hos hU hownW hrow hW hLW
 go_enter Tryz.func187,Tryz.ntmps187
 go_wp2_with fail
 rw [← HU.out]
 go_region
 go_wp2_with fail
 rw [← HW.out]
 refine (ords_big B l _ W HLW.out HBW.out hm hf).mono ?_
 rintro e w1 ⟨v1,rfl,hb1,hol⟩
 rw [HOs.out] at hol
 obtain ⟨a2,c2,rfl,hel⟩:=id hol
 obtain ⟨m,hmm⟩:∃ m,m=os.length:=⟨_,rfl⟩
 rw [← hmm] at hm2 ⊢
 have HM:=lH hmm
 have HE:=lH hel
 have HOw1:=lH (HOw0.out.stays hb1)
 have HT0:=lH (cat_nil (tr ow s p os q)).symm
 have hbU1:Below (w.heap.size+1) U w1:=hbW.trans (hb1.mono (by rw [hzW];omega))
 have HBn:Hid (B.le (w.heap.size+1)):=lH (hB.mono (by omega))
 have hbF:∀ u:World,Below (w.heap.size+1) w1 u→Below w.heap.size w u:=fun u hu=>hbU.trans ((hbU1.trans hu).mono (Nat.le_succ _))
 clear hmm hol hel
 go_wp2
 go_loopw [7,8,18] (fun t qv i wr=>∃ (j:Nat) (gs:List Fl) (qj:Int),j≤m∧i=.int .i64 j∧qv=.int .i64 qj∧Below (w.heap.size+1) w1 wr∧Keeps B [74] w1 wr∧(0≤qj∧qj≤1048576)∧OwnFl B (w.heap.size+1) gs t wr∧gs.length≤j∧tr ow s p os q=Cat gs (tr ow s p (os.drop j) qj)) (fun _ _ i _=>m - (intOf i).toNat)
 case atStart=>exact ⟨0,[],q,Nat.zero_le _,rfl,rfl,Below.refl _ _,Keeps.refl _ _ _,hq,HOw1.out,Nat.le_refl _,HT0.out⟩
 case round =>
  obtain ⟨j,gs,qj,hj,rfl,rfl,hb,hkp,hqj,hown,hgl,htr⟩:=hrel
  have HOw:=lH hown
  have HTr:=lH htr
  have HBw:=lH hb
  have HKp:=lH hkp
  have hrw:Rw.row wr w.heap.size=#[.int .i64 i,.int .i64 ow,.int .i64 s,.int .i64 p,.int .i64 q]:=by
   rw [row_below (hbU1.trans hb) (Nat.lt_succ_self _)];exact HRow.out
  clear hown htr
  have hszw:w.heap.size+2≤wr.heap.size:=by have:=hb.size;have:=hb1.size;omega
  obtain ⟨ag,cg,hgis⟩:=(HOw.out.is (by decide) HBn.out).len
  subst hgis
  by_cases hjm:j<m
  ·have hjm2:(j:Int)<m:=by omega
   have hjo:j<os.length:=by rw [← HM.out];exact hjm
   rcases HE.out with ⟨e,_⟩ | ⟨b2,off2,rfl,hat2⟩
   ·rw [e] at hjo;cases hjo
   have hat3:=Lies.keep eO 74 hat2 hkp
   have hc5:=at5 hat3 j hjo
   have hbb:=hat3.1
   have hod:=HOl.out _ (List.getElem_mem hjo)
   have hdr:os.drop j=os[j] :: os.drop (j+1):=List.drop_eq_getElem_cons hjo
   obtain ⟨⟨o1,o2,o3,o4,o5⟩,ho⟩:∃ o,os[j]=o:=⟨_,rfl⟩
   rw [ho] at hc5 hod hdr
   simp only [olf] at hc5 hod
   obtain ⟨z0,z1,z2,z3,z4⟩:=hc5
   have htr:=HTr.out
   rw [hdr] at htr
   have HTd:=lH htr
   have hss:w.heap.size<wr.heap.size:=by omega
   clear hat2 hat3 ho hdr htr hb hkp
   by_cases hq0:qj=0
   ·have hd:(qj==0)=true:=by simpa using hq0
    have HR:=lH (HTd.out.trans (cat_stop (.inl hq0)))
    clear hq0
    go_wp2
    go_ret3
    exact ⟨_,_,0,rfl,nx (hbF wr HBw.out) (below1 _ _),by rw [HR.out];rfl,⟨_,_,_,rfl⟩,fun x hx=>by rw [HR.out] at hx;obtain rfl:=Option.some.inj hx;exact ⟨rfl,Is.stays eFl 159 (HOw.out.is (by decide) HBn.out) (below1 _ _)⟩⟩
   ·have hd:(qj==0)=false:=by simpa using hq0
    cases hmt:meets s p o4
    ·have HMt:=lH hmt
     have HR:=lH (HTd.out.trans (cat_stop (.inr hmt)))
     clear hmt hq0
     go_wp2_with fail
     refine (meets_any _ _ _ _ _ _ _ _ _ _ _).mono ?_
     rintro e w2 ⟨rfl,hb2⟩
     rw [HMt.out]
     go_wp2
     go_ret3
     exact ⟨_,_,0,rfl,nx (nx (hbF wr HBw.out) (below1 _ _)) hb2,by rw [HR.out];rfl,⟨_,_,_,rfl⟩,fun x hx=>by rw [HR.out] at hx;obtain rfl:=Option.some.inj hx;exact ⟨rfl,Is.stays eFl 159 (HOw.out.is (by decide) HBn.out) (nx (below1 _ _) hb2)⟩⟩
    ·have HMt:=lH hmt
     have hnn:¬ (qj=0∨meets s p (opr (o1,o2,o3,o4,o5))=false):=by
      rintro (h | h)
      ·exact hq0 h
      ·rw [show opr (o1,o2,o3,o4,o5)=o4 from rfl,hmt] at h;cases h
     obtain ⟨X,hX⟩:∃ X,X=wr.alloc (.cells #[.int .i64 o1,.int .i64 o2,.int .i64 o3,.int .i64 o4,.int .i64 o5] 74):=⟨_,rfl⟩
     have hbX:Below wr.heap.size wr X:=hX ▸ below1 wr _
     have hzX:X.heap.size=wr.heap.size+1:=by rw [hX];simp
     have hF:∀ u,Below X.heap.size X u→u.cell? ⟨wr.heap.size,0,none⟩=some (.int .i64 o1)∧u.cell? ⟨wr.heap.size,1,none⟩=some (.int .i64 o2)∧u.cell? ⟨wr.heap.size,3,none⟩=some (.int .i64 o4)∧u.cell? ⟨wr.heap.size,4,none⟩=some (.int .i64 o5)∧u.cell? ⟨w.heap.size,1,none⟩=some (.int .i64 ow):=fun u hu=>by
      refine ⟨?_,?_,?_,?_,?_⟩
      ·rw [hu.cell (p:=⟨wr.heap.size,0,none⟩) (by rw [hzX];exact Nat.lt_succ_self _),hX];simp [go_sem]
      ·rw [hu.cell (p:=⟨wr.heap.size,1,none⟩) (by rw [hzX];exact Nat.lt_succ_self _),hX];simp [go_sem]
      ·rw [hu.cell (p:=⟨wr.heap.size,3,none⟩) (by rw [hzX];exact Nat.lt_succ_self _),hX];simp [go_sem]
      ·rw [hu.cell (p:=⟨wr.heap.size,4,none⟩) (by rw [hzX];exact Nat.lt_succ_self _),hX];simp [go_sem]
      ·have:=((hbU1.trans HBw.out).trans ((hbX.trans (hu.mono (by omega))).mono (by omega))).block w.heap.size (Nat.lt_succ_self _)
       have hc:=this.trans (show U.heap[w.heap.size]?=some (.cells #[.int .i64 i,.int .i64 ow,.int .i64 s,.int .i64 p,.int .i64 q] 74 (0,0)) by rw [HU.out];exact heap_alloc_new w _)
       simp [World.cell?,hc]
     have HFx:=lH hF
     have HX:=lH hX
     clear hF hX
     by_cases how:o2=ow
     ·have hd2:(o2==ow)=true:=by simpa using how
      have HR:=lH (HTd.out.trans (cat_self hnn how))
      clear hmt hq0 how hnn
      go_wp2_with fail
      refine (meets_any _ _ _ _ _ _ _ _ _ _ _).mono ?_
      rintro e w2 ⟨rfl,hb2⟩
      rw [HMt.out]
      rw [← HX.out] at hb2
      obtain ⟨c0,c1',c3,c4,c5⟩:=HFx.out w2 hb2
      have hz2:=hb2.size
      go_wp2
      go_ret3
      exact ⟨_,_,11,rfl,nx (nx (hbF wr HBw.out) hbX) hb2,by rw [HR.out];rfl,⟨_,_,_,rfl⟩,fun x hx=>by rw [HR.out] at hx;cases hx⟩
     ·have hd2:(o2==ow)=false:=by simpa using how
      have HR:=lH (HTd.out.trans (cat_go hnn how))
      clear hmt hq0 how hnn
      by_cases hmn:o5<qj
      ·have hmin:min qj (olf (o1,o2,o3,o4,o5))=o5:=by simp only [olf];omega
       rw [hmin] at HR
       have hm9:min qj o5=o5:=by omega
       go_wp2_with fail
       refine (meets_any _ _ _ _ _ _ _ _ _ _ _).mono ?_
       rintro e w2 ⟨rfl,hb2⟩
       rw [HMt.out]
       rw [← HX.out] at hb2
       obtain ⟨c0,c1',c3,c4,c5⟩:=HFx.out w2 hb2
       have hz2:=hb2.size
       obtain ⟨v8,w8,hrun,hown8,hb8,hk8⟩:=fill_app o1 o2 o3 o4 o5 o5 true (by simp) HBn.out (by omega) (HOw.out.stays (nx hbX hb2)) (by omega)
       have HRel:=lH (show Below (w.heap.size+1) w1 w8∧Keeps B [74] w1 w8∧OwnFl B (w.heap.size+1) (gs++[mkF (o1,o2,o3,o4,o5) o5]) v8 w8 from ⟨HBw.out.trans (((nx hbX hb2).mono (by omega)).trans hb8),HKp.out.trans ((Keeps.of_below (nx hbX hb2)).trans hk8),hown8⟩)
       obtain ⟨a8,n8,c8,rfl⟩:∃ a n c,v8=.slice a n c:=by obtain ⟨a,c,h⟩:=(hown8.is (by decide) HBn.out).len;exact ⟨a,_,c,h⟩
       clear hmin hown8 hb8 hk8
       go_wp2
       go_roundw
       case rel=>exact ⟨j+1,gs++[mkF (o1,o2,o3,o4,o5) o5],qj - o5,by omega,by go_num,by go_num,HRel.out.1,HRel.out.2.1,by omega,HRel.out.2.2,by simp only [List.length_append,List.length_singleton];omega,HR.out⟩
       case measure=>simp [intOf];omega
      ·have hmin:min qj (olf (o1,o2,o3,o4,o5))=qj:=by simp only [olf];omega
       rw [hmin] at HR
       have hm9:min qj o5=qj:=by omega
       go_wp2_with fail
       refine (meets_any _ _ _ _ _ _ _ _ _ _ _).mono ?_
       rintro e w2 ⟨rfl,hb2⟩
       rw [HMt.out]
       rw [← HX.out] at hb2
       obtain ⟨c0,c1',c3,c4,c5⟩:=HFx.out w2 hb2
       have hz2:=hb2.size
       obtain ⟨v8,w8,hrun,hown8,hb8,hk8⟩:=fill_app o1 o2 o3 o4 o5 qj (qj==o5) rfl HBn.out (by omega) (HOw.out.stays (nx hbX hb2)) (by omega)
       have HRel:=lH (show Below (w.heap.size+1) w1 w8∧Keeps B [74] w1 w8∧OwnFl B (w.heap.size+1) (gs++[mkF (o1,o2,o3,o4,o5) qj]) v8 w8 from ⟨HBw.out.trans (((nx hbX hb2).mono (by omega)).trans hb8),HKp.out.trans ((Keeps.of_below (nx hbX hb2)).trans hk8),hown8⟩)
       obtain ⟨a8,n8,c8,rfl⟩:∃ a n c,v8=.slice a n c:=by obtain ⟨a,c,h⟩:=(hown8.is (by decide) HBn.out).len;exact ⟨a,_,c,h⟩
       clear hmin hown8 hb8 hk8
       go_wp2
       go_roundw
       case rel=>exact ⟨j+1,gs++[mkF (o1,o2,o3,o4,o5) qj],qj - qj,by omega,by go_num,by go_num,HRel.out.1,HRel.out.2.1,by omega,HRel.out.2.2,by simp only [List.length_append,List.length_singleton];omega,HR.out⟩
       case measure=>simp [intOf];omega
  ·obtain rfl:j=m:=by omega
   have HR:Hid (tr ow s p os q=some (gs,qj)):=lH (by rw [HTr.out,show os.drop j=[] from List.drop_eq_nil_of_le (by rw [HM.out];exact Nat.le_refl _)];simp [tr,Cat])
   go_wp2
   go_ret3
   exact ⟨_,_,0,rfl,hbF wr HBw.out,by rw [HR.out];rfl,⟨_,_,_,rfl⟩,fun x hx=>by rw [HR.out] at hx;obtain rfl:=Option.some.inj hx;exact ⟨rfl,HOw.out.is (by decide) HBn.out⟩⟩
theorem place_any (B:Bs) (b:Bk) (v:Value) (ow sd p q:Int) (rest:Bool) (w:World) (h:BL B b v w) (hB:B.le w.heap.size) (h1:b.1.length≤1000) (h2:(flat b.1).length≤1000) (h3:b.2.1.length≤1000) (h4:(flat b.2.1).length≤1000) :
  Calls Tryz.prog 151 #[v,.int .i64 ow,.int .i64 sd,.int .i64 p,.int .i64 q,.bool rest] w (PostPl B (place b ow sd p q rest) w):=by
 obtain ⟨x,y,rfl,hx,hy⟩:=h
 obtain ⟨C,hC⟩:∃ C,place b ow sd p q rest=C:=⟨_,rfl⟩
 rw [hC]
 obtain ⟨s,hs⟩:∃ s,w.heap.size=s:=⟨_,rfl⟩
 obtain ⟨a1,c1,rfl⟩:=hx.len
 obtain ⟨a2,c2,rfl⟩:=hy.len
 obtain ⟨n,hn⟩:∃ n,b.2.2=n:=⟨_,rfl⟩
 obtain ⟨n1,hn1⟩:∃ n,b.1.length=n:=⟨_,rfl⟩
 obtain ⟨n2,hn2⟩:∃ n,b.2.1.length=n:=⟨_,rfl⟩
 rw [hn1] at hx ⊢
 rw [hn2] at hy ⊢
 rw [hn]
 obtain ⟨V,hV⟩:∃ V,V=((w.alloc (.cells #[.slice a1 n1 c1,.slice a2 n2 c2,.int .i64 n] 57)).alloc (.cells #[.slice none 0 0,.slice none 0 0,.int .i64 0] 57)).alloc (.cells #[.int .i64 n,.int .i64 ow,.int .i64 sd,.int .i64 p,.int .i64 q] 74):=⟨_,rfl⟩
 have hbV:Below w.heap.size w V:=hV ▸ below3 w _ _ _
 have hzV:V.heap.size=s+3:=by rw [hV,← hs];simp
 obtain ⟨A,hA⟩:∃ A,A=B.but (fun b=>b=s+2):=⟨_,rfl⟩
 have hAB:A.sub B:=by rw [hA];exact Bs.sub_but _ _
 have hAx:A.ex (s+2):=by rw [hA];exact .inr rfl
 have hAl:A.le (s+3):=by rw [hA];exact Bs.but_le (hB.mono (by omega)) (fun b hb=>by omega)
 have hAlo:A.lo≤s:=by have:=hB.1;rw [hA,← hs];exact this
 have hxV:LL A b.1 (.slice a1 n1 c1) V:=by rw [hA];exact Is.stays eL 106 (Is.now eL 106 hx (fun b hb=>by omega)) hbV
 have hyV:LL A b.2.1 (.slice a2 n2 c2) V:=by rw [hA];exact Is.stays eL 106 (Is.now eL 106 hy (fun b hb=>by omega)) hbV
 have k0:V.heap[s]?=some (.cells #[.slice a1 n1 c1,.slice a2 n2 c2,.int .i64 n] 57 (0,0)):=by
  rw [hV,← hs];exact ((below2 _ _ _).block _ (by simp)).trans (heap_alloc_new w _)
 have k1:V.heap[s+1]?=some (.cells zB 57 (0,0)):=by
  have:=heap_alloc_new (w.alloc (.cells #[.slice a1 n1 c1,.slice a2 n2 c2,.int .i64 n] 57)) (.cells #[.slice none 0 0,.slice none 0 0,.int .i64 0] 57)
  rw [World.size_alloc,hs] at this
  rw [hV];exact ((below1 _ _).block _ (by simp;omega)).trans this
 have k2:V.heap[s+2]?=some (.cells #[.int .i64 n,.int .i64 ow,.int .i64 sd,.int .i64 p,.int .i64 q] 74 (0,0)):=by
  have:=heap_alloc_new ((w.alloc (.cells #[.slice a1 n1 c1,.slice a2 n2 c2,.int .i64 n] 57)).alloc (.cells #[.slice none 0 0,.slice none 0 0,.int .i64 0] 57)) (.cells #[.int .i64 n,.int .i64 ow,.int .i64 sd,.int .i64 p,.int .i64 q] 74)
  rw [World.size_alloc,World.size_alloc,hs] at this
  rw [hV];exact this
 have hbs:Below s w V:=by rw [← hs];exact hbV
 have hfin:∀ u,Below V.heap.size V u→FinP A b (.slice a1 n1 c1) (.slice a2 n2 c2) n [] (.slice none 0 0) s s w u:=fun u hu =>
  finP hn ((hu.block _ (by omega)).trans k0) ((hu.block _ (by omega)).trans k1) rfl hAlo (Is.stays eL 106 hxV hu) (Is.stays eL 106 hyV hu) (Is.nil _ _ _ _) (hbs.trans (hu.mono (by omega)))
 have hfa:∀ u,Below V.heap.size V u→u.heap[s+2]?=some (.cells #[.int .i64 n,.int .i64 ow,.int .i64 sd,.int .i64 p,.int .i64 q] 74 (0,0))∧Rw.row u (s+1+1)=#[.int .i64 n,.int .i64 ow,.int .i64 sd,.int .i64 p,.int .i64 q]∧u.cell? ⟨s,2,none⟩=some (.int .i64 n)∧s<u.heap.size∧s+1<u.heap.size∧s+1+1<u.heap.size:=fun u hu=>by
  have g0:=(hu.block _ (by omega)).trans k0
  have g2:=(hu.block _ (by omega)).trans k2
  have:=hu.size
  refine ⟨g2,by unfold Rw.row;rw [g2],by simp [World.cell?,g0],by omega,by omega,by omega⟩
 have HFin:=lH hfin
 have HFa:=lH hfa
 have HV:=lH hV
 have HK1:=lH k1
 have HC:=lH hC
 have HS:=lH hs
 have HN:=lH hn
 have HN1:=lH hn1
 have HN2:=lH hn2
 have HBL:=lH (show ∀ u,Below V.heap.size V u→BL A b (.agg #[.slice a1 n1 c1,.slice a2 n2 c2,.int .i64 n]) u from fun u hu=>by
  rw [← hn];exact ⟨_,_,rfl,Is.stays eL 106 hxV hu,Is.stays eL 106 hyV hu⟩)
 rw [hs] at hbV
 clear hV hxV hyV k0 k1 k2 hC hx hy hfin hfa hA hbs
 go_enter Tryz.func151,Tryz.ntmps151
 go_wp2_with fail
 rw [← HV.out]
 refine (right_anyB A b _ V (HBL.out V (Below.refl _ _)) (by rw [hzV];exact hAl) h1 h2 h3 h4).mono ?_
 rintro e w1 ⟨rfl,hb1⟩
 have hz1:=hb1.size
 obtain ⟨g2,r2,q2,z0,z1,z2⟩:=HFa.out w1 hb1
 obtain ⟨r0,p1,e1,e2,e3,e4⟩:=HFin.out w1 hb1
 have HZ:=lH (show _∧_∧_ from ⟨e1,e2,e3⟩)
 clear e1 e2 e3 e4 g2
 cases hright:rightB b
 ·have HC3:Hid (C=(b,[],0,0,1)):=lH (by rw [← HC.out];unfold place;rw [hright];rfl)
  clear hright q2
  go_wp2
  refine bodyPost_ret (v:=.tuple #[.agg #[.slice a1 n1 c1,.slice a2 n2 c2,.int .i64 n],.slice none 0 0,.int .i64 0,.int .i64 0,.int .i64 1]) (ret_B5 Tryz.results151 _ _ rfl ?c1) rfl ?c3
  case c1=>first | exact HZ.out.1 | (simp only [go_sem];exact HZ.out.1)
  case c3=>rw [HC3.out];exact ⟨_,_,rfl,by rw [HS.out];exact HZ.out.2.1,HZ.out.2.2.up hAB,Is.nil _ _ _ _⟩
 have HRt:=lH (rightB_iff.1 hright)
 have hnn:1≤n∧n≤1073741824:=by rw [← HN.out];exact ⟨HRt.out.n1,HRt.out.n2⟩
 clear hright p1 HZ
 go_wp2_with fail
 refine (mayCome_any n ow sd p q hnn.1 hnn.2 w1).mono ?_
 rintro e w2 ⟨rfl,hd2⟩
 have hb2:=nx hb1 hd2
 have hz2:=hb2.size
 clear r0 r2 q2 z0 z1 z2 hd2
 obtain ⟨g2,r2,q2,z0,z1,z2⟩:=HFa.out w2 hb2
 obtain ⟨r0,p1,e1,e2,e3,e4⟩:=HFin.out w2 hb2
 have HZ:=lH (show _∧_∧_ from ⟨e1,e2,e3⟩)
 clear e1 e2 e3 e4 g2
 cases harg:argOk ow sd p q
 ·have HC3:Hid (C=(b,[],0,0,1)):=lH (by rw [← HC.out];exact place_arg harg)
  clear harg q2
  go_wp2
  refine bodyPost_ret (v:=.tuple #[.agg #[.slice a1 n1 c1,.slice a2 n2 c2,.int .i64 n],.slice none 0 0,.int .i64 0,.int .i64 0,.int .i64 1]) (ret_B5 Tryz.results151 _ _ rfl ?c1) rfl ?c3
  case c1=>first | exact HZ.out.1 | (simp only [go_sem];exact HZ.out.1)
  case c3=>rw [HC3.out];exact ⟨_,_,rfl,by rw [HS.out];exact HZ.out.2.1,HZ.out.2.2.up hAB,Is.nil _ _ _ _⟩
 have HArg:=lH harg
 have hA3:=argOk_iff.1 harg
 have hq8:0≤q∧q≤1048576:=by omega
 have hsd:sd=1∨sd=2:=hA3.2.2.1
 clear harg p1 HZ hA3
 go_wp2_with fail
 refine (clonedB_any A b _ w2 (HBL.out w2 hb2) (hAl.mono (by omega)) (by omega) (by omega) (by omega) (by omega)).mono ?_
 rintro e w3 ⟨x',y',hs1,hs2,rfl,hb3,hmy⟩
 rw [HN.out]
 obtain ⟨x1,y1,e9,hx4,hy4⟩:=hmy.bl
 simp only [Value.agg.injEq,Array.mk.injEq,List.cons.injEq,and_true] at e9
 obtain ⟨rfl,rfl⟩:=e9
 obtain ⟨a4,c4,rfl⟩:=hx4.len
 obtain ⟨a5,c5,rfl⟩:=hy4.len
 obtain ⟨n4,hn4⟩:∃ n,b.1.length=n:=⟨_,rfl⟩
 obtain ⟨n5,hn5⟩:∃ n,b.2.1.length=n:=⟨_,rfl⟩
 rw [hn4] at hmy ⊢
 rw [hn5] at hmy ⊢
 have hz3:=hb3.size
 obtain ⟨m,hm⟩:∃ m,m=w3.heap.size:=⟨_,rfl⟩
 obtain ⟨M,hM⟩:∃ M,M=w3.alloc (.cells #[.slice a4 n4 c4,.slice a5 n5 c5,.int .i64 n] 57):=⟨_,rfl⟩
 have hbM:Below w3.heap.size w3 M:=hM ▸ below1 w3 _
 have hzM:M.heap.size=m+1:=by rw [hM,hm];simp
 have hMm:M.heap[m]?=some (.cells #[.slice a4 n4 c4,.slice a5 n5 c5,.int .i64 n] 57 (0,0)):=by rw [hM,hm];exact heap_alloc_new w3 _
 have hbMV:=nx (nx hb2 hb3) hbM
 have hk1:∀ q,Blk hs1 q→q<m:=fun q hq=>by rw [hm];exact (blk_ge hmy.m1 q hq).2
 have hk2:∀ q,Blk hs2 q→q<m:=fun q hq=>by rw [hm];exact (blk_ge hmy.m2 q hq).2
 have hmz:s+3≤m:=by omega
 have hm2:w2.heap.size≤m:=by omega
 have HMm:=lH hMm
 have HM:=lH hM
 have HMy:=lH (hmy.stays hbM)
 have HKk:=lH (show _∧_ from ⟨hk1,hk2⟩)
 have HMs:=lH hm
 clear hMm hM hmy hx4 hy4 hk1 hk2 hn4 hn5 r0 r2 q2 z0 z1 z2
 rcases hsd with h3' | h3'
 ·subst h3'
  go_wp2_with fail
  rw [← HM.out]
  refine (sides_any w3.heap.size 1 M).mono ?_
  rintro e w5 ⟨rfl,hb5⟩
  first | rw [if_pos rfl] | rw [if_neg (by decide)]
  have hz5:=hb5.size
  have g5:=(hb5.block _ (by omega)).trans HMm.out
  rw [HMs.out] at g5
  have hb5V:=nx hbMV hb5
  have hA5:A.le w5.heap.size:=hAl.mono (by have:=hb5V.size;omega)
  have i0:∀ u,Below w5.heap.size w5 u→u.cell? ⟨w3.heap.size,1,none⟩=some (.slice a5 n5 c5)∧Rw.row u (s+1+1)=#[.int .i64 n,.int .i64 ow,.int .i64 1,.int .i64 p,.int .i64 q]∧w3.heap.size<u.heap.size∧s+1+1<u.heap.size:=fun u hu=>by
   have g:=(hu.block _ (by omega)).trans g5
   obtain ⟨_,r2,_,_,_,z2⟩:=HFa.out u (nx hb5V hu)
   exact ⟨by simp [World.cell?,g],r2,by have:=hu.size;omega,z2⟩
  have HM5:=lH (HMy.out.stays hb5)
  have HG5:=lH g5
  have hol:∀ o∈flat b.2.1,0≤olf o∧olf o≤1048576:=fun o ho=>by
   have:=mem_may HRt.out.sells ho
   rw [omay_iff] at this
   unfold olf;omega
  have HOl:=lH hol
  obtain ⟨T,hT⟩:∃ T,tr ow 1 p (flat b.2.1) q=T:=⟨_,rfl⟩
  have hpl:C=plRes b ow 1 p rest T:=by
   rw [← HC.out,place_tr HRt.out HArg.out,show oth b 1=b.2.1 from (by unfold oth;exact if_pos rfl),hT]
  have HPl:=lH hpl
  have HT:=lH hT
  have HI5:=lH (show ∀ u,Below w5.heap.size w5 u→LL A b.2.1 (.slice a5 n5 c5) u∧A.le u.heap.size from fun u hu=>by
   obtain ⟨x9,y9,e9,l1,l2⟩:=(HM5.out.stays hu).bl
   simp only [Value.agg.injEq,Array.mk.injEq,List.cons.injEq,and_true] at e9
   obtain ⟨rfl,rfl⟩:=e9
   exact ⟨l2,hA5.mono hu.size⟩)
  clear hT hpl hol g5
  cases T with
  | none =>
   have HC3:Hid (C=(b,[],0,0,11)):=HPl
   clear HPl
   go_wp2
   refine Rf.rg [0,1,2,3,4,5,6,7,8,9,10,11] ?_
   repeat (first | (refine Rf.Steps.sk ?_;simp only [Act.put,sA,sB,sC]) | (refine Rf.Steps.pu (v:=?_) ?_ ?_;rotate_left;(intro w_ hS_;have hk_:=i0 w_ hS_;go_simp<;>with_reducible rfl);simp only [Act.put,sA,sB,sC]))
   refine Rf.Steps.forced (i:=4) (by kernel_rfl) ?_
   refine Rf.One.call (fun v u=>∃ a k c lf,v=.tuple #[.slice a k c,.int .i64 lf,.int .i64 11]) (fun v _ _ h k=>h) (f:=?_) (args:=?_) (by rfl) (by rfl) ?_ ?_ ?_
   rotate_left 2
   ·intro w_ hS_;have hk_:=i0 w_ hS_;go_simp<;>first | with_reducible rfl | (constructor<;>with_reducible rfl)
   ·intro w_ hS_;have hk_:=i0 w_ hS_;(go_at_call 187;refine (match_any A b.2.1 _ n ow 1 p q w_ (HI5.out w_ hS_).1 (HI5.out w_ hS_).2 (by omega) (by omega) hq8 HOl.out).mono ?_;rintro e w' ⟨fv,lf,er,rfl,hb9,her,⟨a,k,c,rfl⟩,_⟩;rw [HT.out] at her;subst her;exact ⟨_,rfl,hb9,a,k,c,lf,rfl⟩)
   intro v1 u_ hv1
   simp only [Act.put,sA,sB,sC]
   obtain ⟨a9,k9,c9,lf9,rfl⟩:=hv1
   repeat (first | (refine Rf.Steps.sk ?_;simp only [Act.put,sA,sB,sC]) | (refine Rf.Steps.pu (v:=?_) ?_ ?_;rotate_left;(intro w_ hS_;have hk_:=(fun u (hu:Below w5.heap.size w5 u∧_)=>i0 u hu.1) w_ hS_;go_simp<;>with_reducible rfl);simp only [Act.put,sA,sB,sC]))
   refine Rf.Steps.nil (by kernel_rfl) ?_
   rintro w6 ⟨hb6,_⟩
   have hb6V:=nx hb5V hb6
   obtain ⟨_,r2,q2,z0,z1,z2⟩:=HFa.out w6 hb6V
   obtain ⟨r0,p1,e1,e2,e3,e4⟩:=HFin.out w6 hb6V
   have HZ:=lH (show _∧_∧_ from ⟨e1,e2,e3⟩)
   clear e1 e2 e3 e4 q2
   go_wp2
   refine bodyPost_ret (v:=.tuple #[.agg #[.slice a1 n1 c1,.slice a2 n2 c2,.int .i64 n],.slice none 0 0,.int .i64 0,.int .i64 0,.int .i64 11]) (ret_B5 Tryz.results151 _ _ rfl ?c1) rfl ?c3
   case c1=>first | exact HZ.out.1 | (simp only [go_sem];exact HZ.out.1)
   case c3=>rw [HC3.out];exact ⟨_,_,rfl,by rw [HS.out];exact HZ.out.2.1,HZ.out.2.2.up hAB,Is.nil _ _ _ _⟩
  | some TT =>
   obtain ⟨fs,lf⟩:=TT
   have HTr:=lH (tr_spec (left_pos HRt.out.sells) hq8.1 HT.out)
   have HIds:=lH (tr_ids HRt.out.sells hq8.1 HT.out HTr.out)
   have HFls:=lH (tr_fills HTr.out HOl.out)
   have hfn:fs.length≤1000:=by have:=HTr.out.len;omega
   go_wp2
   refine Rf.rg [0,1,2,3,4,5,6,7,8,9,10,11] ?_
   repeat (first | (refine Rf.Steps.sk ?_;simp only [Act.put,sA,sB,sC]) | (refine Rf.Steps.pu (v:=?_) ?_ ?_;rotate_left;(intro w_ hS_;have hk_:=i0 w_ hS_;go_simp<;>with_reducible rfl);simp only [Act.put,sA,sB,sC]))
   refine Rf.Steps.forced (i:=4) (by kernel_rfl) ?_
   refine Rf.One.call (fun v u=>∃ a k c,v=.tuple #[.slice a k c,.int .i64 lf,.int .i64 0]∧FL A fs (.slice a k c) u) (fun v _ _ h k=>by obtain ⟨a,k',c,e,h⟩:=h;exact ⟨a,k',c,e,Is.stays eFl 159 h k⟩) (f:=?_) (args:=?_) (by rfl) (by rfl) ?_ ?_ ?_
   rotate_left 2
   ·intro w_ hS_;have hk_:=i0 w_ hS_;go_simp<;>first | with_reducible rfl | (constructor<;>with_reducible rfl)
   ·intro w_ hS_;have hk_:=i0 w_ hS_;(go_at_call 187;refine (match_any A b.2.1 _ n ow 1 p q w_ (HI5.out w_ hS_).1 (HI5.out w_ hS_).2 (by omega) (by omega) hq8 HOl.out).mono ?_;rintro e w' ⟨fv,lf',er,rfl,hb9,her,⟨a,k,c,rfl⟩,hx⟩;rw [HT.out] at her hx;obtain ⟨e1,e2⟩:=hx _ rfl;subst her;simp only at e1 e2;subst e1;exact ⟨_,rfl,hb9,a,k,c,rfl,e2⟩)
   intro v1 u_ hv1
   simp only [Act.put,sA,sB,sC]
   obtain ⟨af,kf,cf,rfl,_⟩:=hv1
   repeat (first | (refine Rf.Steps.sk ?_;simp only [Act.put,sA,sB,sC]) | (refine Rf.Steps.pu (v:=?_) ?_ ?_;rotate_left;(intro w_ hS_;have hk_:=(fun u (hu:Below w5.heap.size w5 u∧_)=>i0 u hu.1) w_ hS_;go_simp<;>with_reducible rfl);simp only [Act.put,sA,sB,sC]))
   refine Rf.Steps.nil (by kernel_rfl) ?_
   rintro w6 ⟨hb6,a9,k9,c9,e9,hfl6⟩
   simp only [Value.tuple.injEq,Array.mk.injEq,List.cons.injEq,Value.slice.injEq,and_true] at e9
   obtain ⟨rfl,rfl,rfl⟩:=e9
   clear i0
   have hb6V:=nx hb5V hb6
   have hz6:=hb6.size
   have g6:=(hb6.block _ (by omega)).trans HG5.out
   have HG6:=lH g6
   have HM6:=lH (HM5.out.stays hb6)
   have HFl:=lH hfl6
   have j0:w6.cell? ⟨w3.heap.size,1,none⟩=some (.slice a5 n5 c5):=by simp [World.cell?,g6]
   have hl6:w3.heap.size<w6.heap.size:=by omega
   clear g6 hfl6
   go_wp2_with fail
   refine (traded_any A w2.heap.size b.2.1 fs _ _ hs2 w6 HM6.out.i2 HM6.out.m2 (hAl.mono (by omega)) (by omega) HFl.out (by omega) (by omega) (by omega) HIds.out HFls.out.2 HOl.out).mono ?_
   rintro e w7 ⟨v7,rfl,hll7,hal7⟩
   obtain ⟨a6,n6,c6,hv7⟩:∃ a n c,v7=.slice a n c:=by obtain ⟨a,c,h⟩:=hll7.len;exact ⟨a,_,c,h⟩
   subst hv7
   have hz7:=hal7.size
   have hbs6:Below s w w6:=hbV.trans (hb6V.mono (by omega))
   obtain ⟨haft,hlow⟩:=aftK2 HM6.out HG6.out (fun q hq=>by have:=HKk.out.2 q hq;rw [HMs.out] at this;exact this) hAlo (by omega) (by omega) HFl.out hal7 hll7 hbs6
   obtain ⟨u1,u2,u3,hk7⟩:=haft.cell
   have c7:w7.cell? ⟨w3.heap.size,1,none⟩=some (#[u1,u2,u3][1]):=by simp [World.cell?,hk7]
   have f7:w7.frozen? ⟨w3.heap.size,1,none⟩=false:=by simp [World.frozen?,hk7]
   have hl7:w3.heap.size<w7.heap.size:=(Array.getElem?_eq_some_iff.1 hk7).1
   obtain ⟨F,hF⟩:∃ F,F=w7.setCell ⟨w3.heap.size,1,none⟩ (.slice a6 n6 c6):=⟨_,rfl⟩
   have hzF:F.heap.size=w7.heap.size:=by rw [hF];simp
   rw [← hF] at haft
   have hbF:Below V.heap.size V F:=by
    rw [hF]
    exact (Alt.below hb6V hal7 (by have:=hb6V.size;omega) (fun q hq=>by have:=(blk_ge HM6.out.m2 q hq).1;omega)).trans (low_setCell 1 _ (by omega))
   have hgF1:F.heap[s+1]?=some (.cells zB 57 (0,0)):=(hbF.block _ (by omega)).trans HK1.out
   obtain ⟨r0,p1,e1,e2,e3,e4⟩:=finP (b:=(b.1,fil b.2.1 fs,b.2.2)) (n:=n) HN.out haft.gk hgF1 rfl hAlo haft.l1 haft.l2 haft.fl haft.bel
   have z1':s+1<w7.heap.size:=by omega
   clear j0
   cases rest
   ·have HZ:=lH (show _∧_∧_∧_ from ⟨e1,e2,e3,e4⟩)
    have HC3:Hid (C=((b.1,fil b.2.1 fs,b.2.2),fs,lf,0,0)):=lH (by rw [HPl.out,plRes_not (by rintro ⟨h,_⟩;cases h)];exact congrArg (fun z=>(z,fs,lf,0,0)) (if_pos rfl))
    clear HPl e1 e2 e3 e4
    rw [hF] at r0 p1
    have HF:=lH hF
    clear haft hF hll7 hal7 hk7 hbF hbs6 hlow
    go_wp2
    rw [← HF.out]
    refine bodyPost_ret (v:=.tuple #[.agg #[.slice a4 n4 c4,.slice a6 n6 c6,.int .i64 n],.slice af kf cf,.int .i64 lf,.int .i64 0,.int .i64 0]) (ret_B5 Tryz.results151 _ _ rfl ?c1) rfl ?c3
    case c1=>first | exact HZ.out.1 | (simp only [go_sem];exact HZ.out.1)
    case c3=>rw [HC3.out];exact ⟨_,_,rfl,by rw [HS.out];exact HZ.out.2.1,HZ.out.2.2.1.up hAB,Is.up eFl 159 hAB HZ.out.2.2.2⟩
   by_cases hlf:0<lf
   case neg =>
    have fl0:(lf==0)=true:=by have:=HTr.out.nn;simp;omega
    have HZ:=lH (show _∧_∧_∧_ from ⟨e1,e2,e3,e4⟩)
    have HC3:Hid (C=((b.1,fil b.2.1 fs,b.2.2),fs,lf,0,0)):=lH (by rw [HPl.out,plRes_not (by rintro ⟨_,h⟩;exact hlf h)];exact congrArg (fun z=>(z,fs,lf,0,0)) (if_pos rfl))
    clear HPl e1 e2 e3 e4 hlf
    rw [hF] at r0 p1
    have HF:=lH hF
    clear haft hF hll7 hal7 hk7 hbF hbs6 hlow
    go_wp2
    rw [← HF.out]
    refine bodyPost_ret (v:=.tuple #[.agg #[.slice a4 n4 c4,.slice a6 n6 c6,.int .i64 n],.slice af kf cf,.int .i64 lf,.int .i64 0,.int .i64 0]) (ret_B5 Tryz.results151 _ _ rfl ?c1) rfl ?c3
    case c1=>first | exact HZ.out.1 | (simp only [go_sem];exact HZ.out.1)
    case c3=>rw [HC3.out];exact ⟨_,_,rfl,by rw [HS.out];exact HZ.out.2.1,HZ.out.2.2.1.up hAB,Is.up eFl 159 hAB HZ.out.2.2.2⟩
   have fl1:(lf==0)=false:=by simp;omega
   have hw:=tr_wout (b:=b) (ow:=ow) (s:=1) (p:=p) (q:=q) HRt.out (by decide) hq8.1 (show tr ow 1 p (flat (oth b 1)) q=some (fs,lf) by rw [show oth b 1=b.2.1 from if_pos rfl];exact HT.out)
   rw [show wout b 1 fs=(b.1,fil b.2.1 fs,b.2.2) from if_pos rfl] at hw
   have HW:=lH hw
   obtain ⟨hs1',hs2',hs3',hs4'⟩:=right_small hw.1
   have hblF:BL A (b.1,fil b.2.1 fs,b.2.2) (.agg #[.slice a4 n4 c4,.slice a6 n6 c6,.int .i64 n]) F:=by rw [← HN.out];exact ⟨_,_,rfl,haft.l1,haft.l2⟩
   obtain ⟨d,hd⟩:∃ d,cntB (b.1,fil b.2.1 fs,b.2.2)=d:=⟨_,rfl⟩
   have HD:=lH hd
   have hd40:d≤1000:=by have:=hw.1.cnt;omega
   have HBF:=lH hbF
   have HAft:=lH haft
   have HG1:=lH hgF1
   rw [hF] at r0
   have HF:=lH hF
   clear e1 e2 e3 e4 p1 hw hF hd hll7 hal7 hk7 hbs6 hlow hgF1 haft
   go_wp2_with fail
   rw [← HF.out]
   refine (cnt_any A (b.1,fil b.2.1 fs,b.2.2) _ F hblF (hA5.mono (by omega)) (Nat.le_trans hs1' (by decide)) (Nat.le_trans hs2' (by decide)) (Nat.le_trans hs3' (by decide)) (Nat.le_trans hs4' (by decide))).mono ?_
   rintro e w8 ⟨rfl,hb8⟩
   rw [HD.out]
   clear hblF r0 hbF
   have hz8:=hb8.size
   have hb8V:=nx HBF.out hb8
   obtain ⟨_,r2,q2,z0,z1,z2⟩:=HFa.out w8 hb8V
   by_cases dF:40≤d
   ·have dF2:(40:Int)≤d:=by omega
    have HC3:Hid (C=(b,[],0,0,10)):=lH (by rw [HPl.out,plRes_full hlf (.inl (by have:=HW.out.2.1;have:=HD.out;omega))])
    obtain ⟨r0,p1,e1,e2,e3,e4⟩:=HFin.out w8 hb8V
    have HZ:=lH (show _∧_∧_ from ⟨e1,e2,e3⟩)
    clear e1 e2 e3 e4 HPl q2
    go_wp2
    refine bodyPost_ret (v:=.tuple #[.agg #[.slice a1 n1 c1,.slice a2 n2 c2,.int .i64 n],.slice none 0 0,.int .i64 0,.int .i64 0,.int .i64 10]) (ret_B5 Tryz.results151 _ _ rfl ?c1) rfl ?c3
    case c1=>first | exact HZ.out.1 | (simp only [go_sem];exact HZ.out.1)
    case c3=>rw [HC3.out];exact ⟨_,_,rfl,by rw [HS.out];exact HZ.out.2.1,HZ.out.2.2.up hAB,Is.nil _ _ _ _⟩
   have dF2:¬ (40:Int)≤d:=by omega
   have dF3:decide ((40:Int)≤d)=false:=by simpa using dF2
   by_cases dN:n=1073741824
   ·have fN:(n==1073741824)=true:=by simpa using dN
    have HC3:Hid (C=(b,[],0,0,10)):=lH (by rw [HPl.out,plRes_full hlf (.inr (HN.out.trans dN))])
    obtain ⟨r0,p1,e1,e2,e3,e4⟩:=HFin.out w8 hb8V
    have HZ:=lH (show _∧_∧_ from ⟨e1,e2,e3⟩)
    clear e1 e2 e3 e4 HPl dN
    go_wp2
    refine bodyPost_ret (v:=.tuple #[.agg #[.slice a1 n1 c1,.slice a2 n2 c2,.int .i64 n],.slice none 0 0,.int .i64 0,.int .i64 0,.int .i64 10]) (ret_B5 Tryz.results151 _ _ rfl ?c1) rfl ?c3
    case c1=>first | exact HZ.out.1 | (simp only [go_sem];exact HZ.out.1)
    case c3=>rw [HC3.out];exact ⟨_,_,rfl,by rw [HS.out];exact HZ.out.2.1,HZ.out.2.2.up hAB,Is.nil _ _ _ _⟩
   have fN:(n==1073741824)=false:=by simpa using dN
   obtain ⟨g2,_⟩:=HFa.out w8 hb8V
   have gk8:=(hb8.block w3.heap.size (by omega)).trans HAft.out.gk
   have q9:w8.cell? ⟨s+1+1,4,none⟩=some (.int .i64 q):=by simp [World.cell?,g2]
   have f9:w8.frozen? ⟨s+1+1,4,none⟩=false:=by simp [World.frozen?,g2]
   obtain ⟨G,hG⟩:∃ G,G=w8.setCell ⟨s+1+1,4,none⟩ (.int .i64 lf):=⟨_,rfl⟩
   have hzG:G.heap.size=w8.heap.size:=by rw [hG];simp
   have hne9:∀ q,q≠s+2→G.heap[q]?=w8.heap[q]?:=fun q hq=>by rw [hG];exact Below.heap_setCell w8 ⟨s+2,4,none⟩ _ q hq
   have gkG:=(hne9 _ (by omega)).trans gk8
   have g1G:G.heap[s+1]?=some (.cells zB 57 (0,0)):=(hne9 _ (by omega)).trans ((hb8.block _ (by omega)).trans HG1.out)
   have g2G:G.heap[s+2]?=some (.cells #[.int .i64 n,.int .i64 ow,.int .i64 1,.int .i64 p,.int .i64 lf] 74 (0,0)):=by rw [hG];exact set5 g2
   have hkG:∀ ts,Keeps A ts w8 G:=fun ts=>Keeps.of_alt (X:=fun b=>b=s+2) ⟨by rw [hG];rfl,by rw [hG];rfl,by rw [hG];rfl,by omega,fun b _ hx=>hne9 b hx⟩ (fun b hb _=>by subst hb;exact ⟨hAx,by omega⟩)
   have hownG:LL A b.1 (.slice a4 n4 c4) G:=Is.keep eL 106 (Is.stays eL 106 HAft.out.l1 hb8) (hkG _)
   have hothG:LL A (fil b.2.1 fs) (.slice a6 n6 c6) G:=Is.keep eL 106 (Is.stays eL 106 HAft.out.l2 hb8) (hkG _)
   have hflG:FL A fs (.slice af kf cf) G:=Is.keep eFl 159 (Is.stays eFl 159 HAft.out.fl hb8) (hkG _)
   have hbG:Below s w G:=(HAft.out.bel.trans (hb8.mono (by omega))).trans (by rw [hG];exact low_setCell 4 _ (by omega))
   have hlfq:1≤lf∧lf≤1048576:=by
    have e1:=HTr.out.sum
    have e2:=sumQ_nn (fs:=fs) (fun f hf=>(HFls.out.2 f hf).1)
    omega
   have HPut:Hid (putE b.1 (n,ow,1,p,lf)=0∧put b.1 (n,ow,1,p,lf)=putL 1 (n,ow,1,p,lf) b.1):=lH (put_isB HRt.out.buys (by
    have:=argOk_iff.1 HArg.out
    exact omay_iff.2 (show 1≤n∧n≤1073741824∧0≤ow∧ow<64∧(1:Int)=1∧1≤p∧p≤1048576∧1≤lf∧lf≤1048576 by omega)) (fnd_lt HRt.out.ltB (by rw [HN.out];exact Int.le_refl _)))
   have hC3:C=((putL 1 (n,ow,1,p,lf) b.1,fil b.2.1 fs,n+1),fs,lf,n,0):=by
    have hcn:=HW.out.2.1
    have hdd:=HD.out
    rw [HPl.out,plRes_put hlf (by rw [HN.out];omega),show wout b 1 fs=(b.1,fil b.2.1 fs,b.2.2) from if_pos rfl,HN.out]
    exact congrArg (fun z=>(z,fs,lf,n,0)) (if_pos rfl)
   have HC3:=lH hC3
   have hfG:∀ u,G.grownBy u (some w3.heap.size)→Rw.row u (s+1+1)=#[.int .i64 n,.int .i64 ow,.int .i64 1,.int .i64 p,.int .i64 lf]∧s+1+1<u.heap.size∧w3.heap.size<u.heap.size:=fun u hu=>by
    have g:=(hu.block (s+2) (by omega) (by simp;omega)).trans g2G
    have:=hu.size
    exact ⟨by unfold Rw.row;rw [g],by omega,by omega⟩
   have hGs:∀ u,Below G.heap.size G u→u.heap[w3.heap.size]?=some (.cells #[.slice a4 n4 c4,.slice a6 n6 c6,.int .i64 n] 57 (0,0))∧u.heap[s+1]?=some (.cells zB 57 (0,0))∧u.heap[s+2]?=some (.cells #[.int .i64 n,.int .i64 ow,.int .i64 1,.int .i64 p,.int .i64 lf] 74 (0,0))∧LL A b.1 (.slice a4 n4 c4) u∧LL A (fil b.2.1 fs) (.slice a6 n6 c6) u∧FL A fs (.slice af kf cf) u∧Below s w u∧A.le u.heap.size:=fun u hu=>by
    have hz:=hu.size
    exact ⟨(hu.block _ (by omega)).trans gkG,(hu.block _ (by omega)).trans g1G,(hu.block _ (by omega)).trans g2G,Is.stays eL 106 hownG hu,Is.stays eL 106 hothG hu,Is.stays eFl 159 hflG hu,hbG.trans (hu.mono (by omega)),hA5.mono (by omega)⟩
   have HGs:=lH hGs
   have HG:=lH hG
   have hnn2:n<1073741824:=by omega
   clear hG hGs hC3 hkG hownG hothG hflG hbG gkG g1G g2G hne9 gk8 hlfq HPl g2 dN dF
   go_wp2
   rw [← HG.out]
   refine Rh.rg (fun u=>G.grownBy u (some w3.heap.size)) (fun u=>Below G.heap.size G u) (grown_stays G _) (fun _ _ h k=>nx h k) (grown_drew G _) ((Below.refl _ _).drew) [0,1,2,4,3,5,6,7,8,9,10] ?_
   repeat (first | (refine Rh.Steps.sk ?_;simp only [Act.put,sA,sB,sC]) | (refine Rh.Steps.pu (v:=?_) ?_ ?_;rotate_left;(intro w_ hS_;have hk_:=hfG w_ hS_;go_simp<;>with_reducible rfl);simp only [Act.put,sA,sB,sC]))
   refine Rh.Steps.forced (i:=3) (by kernel_rfl) ?_
   refine Rh.One.val (fun v _=>v=.slice a4 n4 c4) (fun _ _ _ h _=>h) (by rfl) (by rfl) ?_ ?_
   ·intro w_ hS_ hG_
    have gk:=(HGs.out w_ hG_).1
    have c0:w_.cell? ⟨w3.heap.size,0,none⟩=some (.slice a4 n4 c4):=by simp [World.cell?,gk]
    have hk9:=(hfG w_ hS_).2.2
    refine ⟨_,w_,?_,Below.refl _ _,rfl⟩
    clear gk hS_ hG_
    go_simp
   rintro _ _ rfl
   simp only [Act.put,sA,sB,sC]
   refine Rh.Steps.forced (i:=5) (by kernel_rfl) ?_
   refine Rh.One.call (fun v u=>∃ a k c,v=.tuple #[.slice a k c,.int .i64 0]∧LL A (putL 1 (n,ow,1,p,lf) b.1) (.slice a k c) u) (fun v _ _ h k=>by obtain ⟨a,k',c,e,h⟩:=h;exact ⟨a,k',c,e,Is.stays eL 106 h k⟩) (f:=?_) (args:=?_) (by rfl) (by rfl) ?_ ?_ ?_
   rotate_left 2
   ·intro w_ hS_ hG_;go_simp<;>first | with_reducible rfl | (constructor<;>with_reducible rfl)
   ·intro w_ hS_ hG_;(go_at_call 189;obtain ⟨_,_,_,l9,_,_,_,la9⟩:=HGs.out w_ hG_.1;refine (put_any A b.1 _ n ow 1 p lf w_ l9 la9 h1 h2).mono ?_;rintro e w' ⟨t,rfl,hb9,hl9⟩;rw [HPut.out.1,HPut.out.2] at *;obtain ⟨a,c,ht⟩:=hl9.len;subst ht;exact ⟨_,rfl,hb9,_,_,_,rfl,hl9⟩)
   intro v2 u_ hv2
   simp only [Act.put,sA,sB,sC]
   obtain ⟨a7,n7,c7,rfl,_⟩:=hv2
   repeat (first | (refine Rh.Steps.sk ?_;simp only [Act.put,sA,sB,sC]) | (refine Rh.Steps.pu (v:=?_) ?_ ?_;rotate_left;(intro w_ hS_;have hk_:=hfG w_ hS_;go_simp<;>with_reducible rfl);simp only [Act.put,sA,sB,sC]))
   refine Rh.Steps.forced (i:=10) (by kernel_rfl) ?_
   refine Rh.One.store (fun u=>u.heap[w3.heap.size]?=some (.cells #[.slice a7 n7 c7,.slice a6 n6 c6,.int .i64 n] 57 (0,0))∧u.heap[s+1]?=some (.cells zB 57 (0,0))∧u.heap[s+2]?=some (.cells #[.int .i64 n,.int .i64 ow,.int .i64 1,.int .i64 p,.int .i64 lf] 74 (0,0))∧LL A (putL 1 (n,ow,1,p,lf) b.1) (.slice a7 n7 c7) u∧LL A (fil b.2.1 fs) (.slice a6 n6 c6) u∧FL A fs (.slice af kf cf) u∧Below s w u∧s+2<w3.heap.size) (fun u u' h k=>by
    obtain ⟨q1,q2,q3,q4,q5,q6,q7,q8⟩:=h
    have hz:=(Array.getElem?_eq_some_iff.1 q1).1
    exact ⟨(k.block _ hz).trans q1,(k.block _ (by omega)).trans q2,(k.block _ (by omega)).trans q3,Is.stays eL 106 q4 k,Is.stays eL 106 q5 k,Is.stays eFl 159 q6 k,q7.trans (k.mono (by omega)),q8⟩) (by rfl) (by rfl) ?_ ?_
   ·intro w_ hS_ hG_
    obtain ⟨⟨hg,_⟩,a9,k9,c9,e9,hl9⟩:=hG_
    simp only [Value.tuple.injEq,Array.mk.injEq,List.cons.injEq,Value.slice.injEq,and_true] at e9
    obtain ⟨rfl,rfl,rfl⟩:=e9
    obtain ⟨gk,g1,g2,_,lo,lfl,bl,_⟩:=HGs.out w_ hg
    have c0:w_.cell? ⟨w3.heap.size,0,none⟩=some (.slice a4 n4 c4):=by simp [World.cell?,gk]
    have f0:w_.frozen? ⟨w3.heap.size,0,none⟩=false:=by simp [World.frozen?,gk]
    have hk9:=(hfG w_ hS_).2.2
    have hkp:∀ ts,57 ∉ ts→Keeps A ts w_ (w_.setCell ⟨w3.heap.size,0,none⟩ (.slice a7 n7 c7)):=fun ts ht=>keeps_setCell 0 _ gk ht (by omega)
    refine ⟨w_.setCell ⟨w3.heap.size,0,none⟩ (.slice a7 n7 c7),?_,grown_trans hS_ (Ro.setCell_grown w_ w3.heap.size 0 _),set3 gk,(Below.heap_setCell w_ ⟨w3.heap.size,0,none⟩ _ (s+1) (by show s+1≠w3.heap.size;omega)).trans g1,(Below.heap_setCell w_ ⟨w3.heap.size,0,none⟩ _ (s+2) (by show s+2≠w3.heap.size;omega)).trans g2,Is.keep eL 106 hl9 (hkp _ (by decide)),Is.keep eL 106 lo (hkp _ (by decide)),Is.keep eFl 159 lfl (hkp _ (by decide)),bl.trans (low_setCell 0 _ (by omega)),by omega⟩
    clear gk g1 g2 lo lfl bl hl9 hkp hS_ hg
    go_simp
   refine Rh.Steps.nil (by kernel_rfl) ?_
   rintro w9 _ ⟨gk,g1,g2,ln,lo,lfl,bl,hsk⟩
   have hz9:=(Array.getElem?_eq_some_iff.1 gk).1
   have c2':w9.cell? ⟨w3.heap.size,2,none⟩=some (.int .i64 n):=by simp [World.cell?,gk]
   have f2':w9.frozen? ⟨w3.heap.size,2,none⟩=false:=by simp [World.frozen?,gk]
   have hwn:IntKind.i64.wrap (n+1)=n+1:=IntWalk.i64_in _ (by omega)
   obtain ⟨N,hN⟩:∃ N,N=w9.setCell ⟨w3.heap.size,2,none⟩ (.int .i64 (n+1)):=⟨_,rfl⟩
   have hzN:N.heap.size=w9.heap.size:=by rw [hN];simp
   have hneN:∀ q,q≠w3.heap.size→N.heap[q]?=w9.heap[q]?:=fun q hq=>by rw [hN];exact Below.heap_setCell w9 ⟨w3.heap.size,2,none⟩ _ q hq
   have gkN:N.heap[w3.heap.size]?=some (.cells #[.slice a7 n7 c7,.slice a6 n6 c6,.int .i64 (n+1)] 57 (0,0)):=by rw [hN];exact set3 gk
   have hkN:∀ ts,57 ∉ ts→Keeps A ts w9 N:=fun ts ht=>by rw [hN];exact keeps_setCell 2 _ gk ht (by omega)
   have hl7:LL A (putL 1 (n,ow,1,p,lf) b.1) (.slice a7 n7 c7) N:=Is.keep eL 106 ln (hkN _ (by decide))
   have hoO:LL A (fil b.2.1 fs) (.slice a6 n6 c6) N:=Is.keep eL 106 lo (hkN _ (by decide))
   have hfN:FL A fs (.slice af kf cf) N:=Is.keep eFl 159 lfl (hkN _ (by decide))
   have hbN:Below s w N:=bl.trans (by rw [hN];exact low_setCell 2 _ (by omega))
   have g1N:=(hneN (s+1) (by omega)).trans g1
   have g2N:=(hneN (s+2) (by omega)).trans g2
   obtain ⟨r0,p1,e1,e2,e3,e4⟩:=finP (b:=(putL 1 (n,ow,1,p,lf) b.1,fil b.2.1 fs,n+1)) (n:=n+1) rfl gkN g1N rfl hAlo hl7 hoO hfN hbN
   have z8:N.cell? ⟨s+1+1,0,none⟩=some (.int .i64 n):=by simp [World.cell?,g2N]
   have z9:(N.setRow (s+1) #[.slice a7 n7 c7,.slice a6 n6 c6,.int .i64 (n+1)]).cell? ⟨s+1+1,0,none⟩=some (.int .i64 n):=by
    simp only [World.cell?]
    rw [setRow_other N (s+1) (s+1+1) _ (by omega),g2N];rfl
   have HZ:=lH (show _∧_∧_∧_ from ⟨e1,e2.drew,e3.stays (Below.refl _ _).drew,Is.stays eFl 159 e4 (Below.refl _ _).drew⟩)
   have hN1:s+1<N.heap.size:=by omega
   have hN2:s+1+1<N.heap.size:=by omega
   have hN3:w3.heap.size<N.heap.size:=by omega
   have HN':=lH hN
   clear e1 e2 e3 e4 hN hneN gkN hkN hl7 hoO hfN hbN g1N g2N gk g1 g2 ln lo lfl bl hfG
   go_wp2
   rw [← HN'.out]
   go_region
   go_wp2
   refine bodyPost_ret (v:=.tuple #[.agg #[.slice a7 n7 c7,.slice a6 n6 c6,.int .i64 (n+1)],.slice af kf cf,.int .i64 lf,.int .i64 n,.int .i64 0]) (ret_B5 Tryz.results151 _ _ rfl ?c1) rfl ?c3
   case c1=>first | exact HZ.out.1 | (simp only [go_sem];exact HZ.out.1)
   case c3=>rw [HC3.out];exact ⟨_,_,rfl,by rw [HS.out];exact HZ.out.2.1,HZ.out.2.2.1.up hAB,Is.up eFl 159 hAB HZ.out.2.2.2⟩
 ·subst h3'
  go_wp2_with fail
  rw [← HM.out]
  refine (sides_any w3.heap.size 2 M).mono ?_
  rintro e w5 ⟨rfl,hb5⟩
  first | rw [if_pos rfl] | rw [if_neg (by decide)]
  have hz5:=hb5.size
  have g5:=(hb5.block _ (by omega)).trans HMm.out
  rw [HMs.out] at g5
  have hb5V:=nx hbMV hb5
  have hA5:A.le w5.heap.size:=hAl.mono (by have:=hb5V.size;omega)
  have i0:∀ u,Below w5.heap.size w5 u→u.cell? ⟨w3.heap.size,0,none⟩=some (.slice a4 n4 c4)∧Rw.row u (s+1+1)=#[.int .i64 n,.int .i64 ow,.int .i64 2,.int .i64 p,.int .i64 q]∧w3.heap.size<u.heap.size∧s+1+1<u.heap.size:=fun u hu=>by
   have g:=(hu.block _ (by omega)).trans g5
   obtain ⟨_,r2,_,_,_,z2⟩:=HFa.out u (nx hb5V hu)
   exact ⟨by simp [World.cell?,g],r2,by have:=hu.size;omega,z2⟩
  have HM5:=lH (HMy.out.stays hb5)
  have HG5:=lH g5
  have hol:∀ o∈flat b.1,0≤olf o∧olf o≤1048576:=fun o ho=>by
   have:=mem_may HRt.out.buys ho
   rw [omay_iff] at this
   unfold olf;omega
  have HOl:=lH hol
  obtain ⟨T,hT⟩:∃ T,tr ow 2 p (flat b.1) q=T:=⟨_,rfl⟩
  have hpl:C=plRes b ow 2 p rest T:=by
   rw [← HC.out,place_tr HRt.out HArg.out,show oth b 2=b.1 from (by unfold oth;exact if_neg (by decide)),hT]
  have HPl:=lH hpl
  have HT:=lH hT
  have HI5:=lH (show ∀ u,Below w5.heap.size w5 u→LL A b.1 (.slice a4 n4 c4) u∧A.le u.heap.size from fun u hu=>by
   obtain ⟨x9,y9,e9,l1,l2⟩:=(HM5.out.stays hu).bl
   simp only [Value.agg.injEq,Array.mk.injEq,List.cons.injEq,and_true] at e9
   obtain ⟨rfl,rfl⟩:=e9
   exact ⟨l1,hA5.mono hu.size⟩)
  clear hT hpl hol g5
  cases T with
  | none =>
   have HC3:Hid (C=(b,[],0,0,11)):=HPl
   clear HPl
   go_wp2
   refine Rf.rg [0,1,2,3,4,5,6,7,8,9,10,11] ?_
   repeat (first | (refine Rf.Steps.sk ?_;simp only [Act.put,sA,sB,sC]) | (refine Rf.Steps.pu (v:=?_) ?_ ?_;rotate_left;(intro w_ hS_;have hk_:=i0 w_ hS_;go_simp<;>with_reducible rfl);simp only [Act.put,sA,sB,sC]))
   refine Rf.Steps.forced (i:=4) (by kernel_rfl) ?_
   refine Rf.One.call (fun v u=>∃ a k c lf,v=.tuple #[.slice a k c,.int .i64 lf,.int .i64 11]) (fun v _ _ h k=>h) (f:=?_) (args:=?_) (by rfl) (by rfl) ?_ ?_ ?_
   rotate_left 2
   ·intro w_ hS_;have hk_:=i0 w_ hS_;go_simp<;>first | with_reducible rfl | (constructor<;>with_reducible rfl)
   ·intro w_ hS_;have hk_:=i0 w_ hS_;(go_at_call 187;refine (match_any A b.1 _ n ow 2 p q w_ (HI5.out w_ hS_).1 (HI5.out w_ hS_).2 (by omega) (by omega) hq8 HOl.out).mono ?_;rintro e w' ⟨fv,lf,er,rfl,hb9,her,⟨a,k,c,rfl⟩,_⟩;rw [HT.out] at her;subst her;exact ⟨_,rfl,hb9,a,k,c,lf,rfl⟩)
   intro v1 u_ hv1
   simp only [Act.put,sA,sB,sC]
   obtain ⟨a9,k9,c9,lf9,rfl⟩:=hv1
   repeat (first | (refine Rf.Steps.sk ?_;simp only [Act.put,sA,sB,sC]) | (refine Rf.Steps.pu (v:=?_) ?_ ?_;rotate_left;(intro w_ hS_;have hk_:=(fun u (hu:Below w5.heap.size w5 u∧_)=>i0 u hu.1) w_ hS_;go_simp<;>with_reducible rfl);simp only [Act.put,sA,sB,sC]))
   refine Rf.Steps.nil (by kernel_rfl) ?_
   rintro w6 ⟨hb6,_⟩
   have hb6V:=nx hb5V hb6
   obtain ⟨_,r2,q2,z0,z1,z2⟩:=HFa.out w6 hb6V
   obtain ⟨r0,p1,e1,e2,e3,e4⟩:=HFin.out w6 hb6V
   have HZ:=lH (show _∧_∧_ from ⟨e1,e2,e3⟩)
   clear e1 e2 e3 e4 q2
   go_wp2
   refine bodyPost_ret (v:=.tuple #[.agg #[.slice a1 n1 c1,.slice a2 n2 c2,.int .i64 n],.slice none 0 0,.int .i64 0,.int .i64 0,.int .i64 11]) (ret_B5 Tryz.results151 _ _ rfl ?c1) rfl ?c3
   case c1=>first | exact HZ.out.1 | (simp only [go_sem];exact HZ.out.1)
   case c3=>rw [HC3.out];exact ⟨_,_,rfl,by rw [HS.out];exact HZ.out.2.1,HZ.out.2.2.up hAB,Is.nil _ _ _ _⟩
  | some TT =>
   obtain ⟨fs,lf⟩:=TT
   have HTr:=lH (tr_spec (left_pos HRt.out.buys) hq8.1 HT.out)
   have HIds:=lH (tr_ids HRt.out.buys hq8.1 HT.out HTr.out)
   have HFls:=lH (tr_fills HTr.out HOl.out)
   have hfn:fs.length≤1000:=by have:=HTr.out.len;omega
   go_wp2
   refine Rf.rg [0,1,2,3,4,5,6,7,8,9,10,11] ?_
   repeat (first | (refine Rf.Steps.sk ?_;simp only [Act.put,sA,sB,sC]) | (refine Rf.Steps.pu (v:=?_) ?_ ?_;rotate_left;(intro w_ hS_;have hk_:=i0 w_ hS_;go_simp<;>with_reducible rfl);simp only [Act.put,sA,sB,sC]))
   refine Rf.Steps.forced (i:=4) (by kernel_rfl) ?_
   refine Rf.One.call (fun v u=>∃ a k c,v=.tuple #[.slice a k c,.int .i64 lf,.int .i64 0]∧FL A fs (.slice a k c) u) (fun v _ _ h k=>by obtain ⟨a,k',c,e,h⟩:=h;exact ⟨a,k',c,e,Is.stays eFl 159 h k⟩) (f:=?_) (args:=?_) (by rfl) (by rfl) ?_ ?_ ?_
   rotate_left 2
   ·intro w_ hS_;have hk_:=i0 w_ hS_;go_simp<;>first | with_reducible rfl | (constructor<;>with_reducible rfl)
   ·intro w_ hS_;have hk_:=i0 w_ hS_;(go_at_call 187;refine (match_any A b.1 _ n ow 2 p q w_ (HI5.out w_ hS_).1 (HI5.out w_ hS_).2 (by omega) (by omega) hq8 HOl.out).mono ?_;rintro e w' ⟨fv,lf',er,rfl,hb9,her,⟨a,k,c,rfl⟩,hx⟩;rw [HT.out] at her hx;obtain ⟨e1,e2⟩:=hx _ rfl;subst her;simp only at e1 e2;subst e1;exact ⟨_,rfl,hb9,a,k,c,rfl,e2⟩)
   intro v1 u_ hv1
   simp only [Act.put,sA,sB,sC]
   obtain ⟨af,kf,cf,rfl,_⟩:=hv1
   repeat (first | (refine Rf.Steps.sk ?_;simp only [Act.put,sA,sB,sC]) | (refine Rf.Steps.pu (v:=?_) ?_ ?_;rotate_left;(intro w_ hS_;have hk_:=(fun u (hu:Below w5.heap.size w5 u∧_)=>i0 u hu.1) w_ hS_;go_simp<;>with_reducible rfl);simp only [Act.put,sA,sB,sC]))
   refine Rf.Steps.nil (by kernel_rfl) ?_
   rintro w6 ⟨hb6,a9,k9,c9,e9,hfl6⟩
   simp only [Value.tuple.injEq,Array.mk.injEq,List.cons.injEq,Value.slice.injEq,and_true] at e9
   obtain ⟨rfl,rfl,rfl⟩:=e9
   clear i0
   have hb6V:=nx hb5V hb6
   have hz6:=hb6.size
   have g6:=(hb6.block _ (by omega)).trans HG5.out
   have HG6:=lH g6
   have HM6:=lH (HM5.out.stays hb6)
   have HFl:=lH hfl6
   have j0:w6.cell? ⟨w3.heap.size,0,none⟩=some (.slice a4 n4 c4):=by simp [World.cell?,g6]
   have hl6:w3.heap.size<w6.heap.size:=by omega
   clear g6 hfl6
   go_wp2_with fail
   refine (traded_any A w2.heap.size b.1 fs _ _ hs1 w6 HM6.out.i1 HM6.out.m1 (hAl.mono (by omega)) (by omega) HFl.out (by omega) (by omega) (by omega) HIds.out HFls.out.2 HOl.out).mono ?_
   rintro e w7 ⟨v7,rfl,hll7,hal7⟩
   obtain ⟨a6,n6,c6,hv7⟩:∃ a n c,v7=.slice a n c:=by obtain ⟨a,c,h⟩:=hll7.len;exact ⟨a,_,c,h⟩
   subst hv7
   have hz7:=hal7.size
   have hbs6:Below s w w6:=hbV.trans (hb6V.mono (by omega))
   obtain ⟨haft,hlow⟩:=aftK1 HM6.out HG6.out (fun q hq=>by have:=HKk.out.1 q hq;rw [HMs.out] at this;exact this) hAlo (by omega) (by omega) HFl.out hal7 hll7 hbs6
   obtain ⟨u1,u2,u3,hk7⟩:=haft.cell
   have c7:w7.cell? ⟨w3.heap.size,0,none⟩=some (#[u1,u2,u3][0]):=by simp [World.cell?,hk7]
   have f7:w7.frozen? ⟨w3.heap.size,0,none⟩=false:=by simp [World.frozen?,hk7]
   have hl7:w3.heap.size<w7.heap.size:=(Array.getElem?_eq_some_iff.1 hk7).1
   obtain ⟨F,hF⟩:∃ F,F=w7.setCell ⟨w3.heap.size,0,none⟩ (.slice a6 n6 c6):=⟨_,rfl⟩
   have hzF:F.heap.size=w7.heap.size:=by rw [hF];simp
   rw [← hF] at haft
   have hbF:Below V.heap.size V F:=by
    rw [hF]
    exact (Alt.below hb6V hal7 (by have:=hb6V.size;omega) (fun q hq=>by have:=(blk_ge HM6.out.m1 q hq).1;omega)).trans (low_setCell 0 _ (by omega))
   have hgF1:F.heap[s+1]?=some (.cells zB 57 (0,0)):=(hbF.block _ (by omega)).trans HK1.out
   obtain ⟨r0,p1,e1,e2,e3,e4⟩:=finP (b:=(fil b.1 fs,b.2.1,b.2.2)) (n:=n) HN.out haft.gk hgF1 rfl hAlo haft.l1 haft.l2 haft.fl haft.bel
   have z1':s+1<w7.heap.size:=by omega
   clear j0
   cases rest
   ·have HZ:=lH (show _∧_∧_∧_ from ⟨e1,e2,e3,e4⟩)
    have HC3:Hid (C=((fil b.1 fs,b.2.1,b.2.2),fs,lf,0,0)):=lH (by rw [HPl.out,plRes_not (by rintro ⟨h,_⟩;cases h)];exact congrArg (fun z=>(z,fs,lf,0,0)) (if_neg (by decide)))
    clear HPl e1 e2 e3 e4
    rw [hF] at r0 p1
    have HF:=lH hF
    clear haft hF hll7 hal7 hk7 hbF hbs6 hlow
    go_wp2
    rw [← HF.out]
    refine bodyPost_ret (v:=.tuple #[.agg #[.slice a6 n6 c6,.slice a5 n5 c5,.int .i64 n],.slice af kf cf,.int .i64 lf,.int .i64 0,.int .i64 0]) (ret_B5 Tryz.results151 _ _ rfl ?c1) rfl ?c3
    case c1=>first | exact HZ.out.1 | (simp only [go_sem];exact HZ.out.1)
    case c3=>rw [HC3.out];exact ⟨_,_,rfl,by rw [HS.out];exact HZ.out.2.1,HZ.out.2.2.1.up hAB,Is.up eFl 159 hAB HZ.out.2.2.2⟩
   by_cases hlf:0<lf
   case neg =>
    have fl0:(lf==0)=true:=by have:=HTr.out.nn;simp;omega
    have HZ:=lH (show _∧_∧_∧_ from ⟨e1,e2,e3,e4⟩)
    have HC3:Hid (C=((fil b.1 fs,b.2.1,b.2.2),fs,lf,0,0)):=lH (by rw [HPl.out,plRes_not (by rintro ⟨_,h⟩;exact hlf h)];exact congrArg (fun z=>(z,fs,lf,0,0)) (if_neg (by decide)))
    clear HPl e1 e2 e3 e4 hlf
    rw [hF] at r0 p1
    have HF:=lH hF
    clear haft hF hll7 hal7 hk7 hbF hbs6 hlow
    go_wp2
    rw [← HF.out]
    refine bodyPost_ret (v:=.tuple #[.agg #[.slice a6 n6 c6,.slice a5 n5 c5,.int .i64 n],.slice af kf cf,.int .i64 lf,.int .i64 0,.int .i64 0]) (ret_B5 Tryz.results151 _ _ rfl ?c1) rfl ?c3
    case c1=>first | exact HZ.out.1 | (simp only [go_sem];exact HZ.out.1)
    case c3=>rw [HC3.out];exact ⟨_,_,rfl,by rw [HS.out];exact HZ.out.2.1,HZ.out.2.2.1.up hAB,Is.up eFl 159 hAB HZ.out.2.2.2⟩
   have fl1:(lf==0)=false:=by simp;omega
   have hw:=tr_wout (b:=b) (ow:=ow) (s:=2) (p:=p) (q:=q) HRt.out (by decide) hq8.1 (show tr ow 2 p (flat (oth b 2)) q=some (fs,lf) by rw [show oth b 2=b.1 from if_neg (by decide)];exact HT.out)
   rw [show wout b 2 fs=(fil b.1 fs,b.2.1,b.2.2) from if_neg (by decide)] at hw
   have HW:=lH hw
   obtain ⟨hs1',hs2',hs3',hs4'⟩:=right_small hw.1
   have hblF:BL A (fil b.1 fs,b.2.1,b.2.2) (.agg #[.slice a6 n6 c6,.slice a5 n5 c5,.int .i64 n]) F:=by rw [← HN.out];exact ⟨_,_,rfl,haft.l1,haft.l2⟩
   obtain ⟨d,hd⟩:∃ d,cntB (fil b.1 fs,b.2.1,b.2.2)=d:=⟨_,rfl⟩
   have HD:=lH hd
   have hd40:d≤1000:=by have:=hw.1.cnt;omega
   have HBF:=lH hbF
   have HAft:=lH haft
   have HG1:=lH hgF1
   rw [hF] at r0
   have HF:=lH hF
   clear e1 e2 e3 e4 p1 hw hF hd hll7 hal7 hk7 hbs6 hlow hgF1 haft
   go_wp2_with fail
   rw [← HF.out]
   refine (cnt_any A (fil b.1 fs,b.2.1,b.2.2) _ F hblF (hA5.mono (by omega)) (Nat.le_trans hs1' (by decide)) (Nat.le_trans hs2' (by decide)) (Nat.le_trans hs3' (by decide)) (Nat.le_trans hs4' (by decide))).mono ?_
   rintro e w8 ⟨rfl,hb8⟩
   rw [HD.out]
   clear hblF r0 hbF
   have hz8:=hb8.size
   have hb8V:=nx HBF.out hb8
   obtain ⟨_,r2,q2,z0,z1,z2⟩:=HFa.out w8 hb8V
   by_cases dF:40≤d
   ·have dF2:(40:Int)≤d:=by omega
    have HC3:Hid (C=(b,[],0,0,10)):=lH (by rw [HPl.out,plRes_full hlf (.inl (by have:=HW.out.2.1;have:=HD.out;omega))])
    obtain ⟨r0,p1,e1,e2,e3,e4⟩:=HFin.out w8 hb8V
    have HZ:=lH (show _∧_∧_ from ⟨e1,e2,e3⟩)
    clear e1 e2 e3 e4 HPl q2
    go_wp2
    refine bodyPost_ret (v:=.tuple #[.agg #[.slice a1 n1 c1,.slice a2 n2 c2,.int .i64 n],.slice none 0 0,.int .i64 0,.int .i64 0,.int .i64 10]) (ret_B5 Tryz.results151 _ _ rfl ?c1) rfl ?c3
    case c1=>first | exact HZ.out.1 | (simp only [go_sem];exact HZ.out.1)
    case c3=>rw [HC3.out];exact ⟨_,_,rfl,by rw [HS.out];exact HZ.out.2.1,HZ.out.2.2.up hAB,Is.nil _ _ _ _⟩
   have dF2:¬ (40:Int)≤d:=by omega
   have dF3:decide ((40:Int)≤d)=false:=by simpa using dF2
   by_cases dN:n=1073741824
   ·have fN:(n==1073741824)=true:=by simpa using dN
    have HC3:Hid (C=(b,[],0,0,10)):=lH (by rw [HPl.out,plRes_full hlf (.inr (HN.out.trans dN))])
    obtain ⟨r0,p1,e1,e2,e3,e4⟩:=HFin.out w8 hb8V
    have HZ:=lH (show _∧_∧_ from ⟨e1,e2,e3⟩)
    clear e1 e2 e3 e4 HPl dN
    go_wp2
    refine bodyPost_ret (v:=.tuple #[.agg #[.slice a1 n1 c1,.slice a2 n2 c2,.int .i64 n],.slice none 0 0,.int .i64 0,.int .i64 0,.int .i64 10]) (ret_B5 Tryz.results151 _ _ rfl ?c1) rfl ?c3
    case c1=>first | exact HZ.out.1 | (simp only [go_sem];exact HZ.out.1)
    case c3=>rw [HC3.out];exact ⟨_,_,rfl,by rw [HS.out];exact HZ.out.2.1,HZ.out.2.2.up hAB,Is.nil _ _ _ _⟩
   have fN:(n==1073741824)=false:=by simpa using dN
   obtain ⟨g2,_⟩:=HFa.out w8 hb8V
   have gk8:=(hb8.block w3.heap.size (by omega)).trans HAft.out.gk
   have q9:w8.cell? ⟨s+1+1,4,none⟩=some (.int .i64 q):=by simp [World.cell?,g2]
   have f9:w8.frozen? ⟨s+1+1,4,none⟩=false:=by simp [World.frozen?,g2]
   obtain ⟨G,hG⟩:∃ G,G=w8.setCell ⟨s+1+1,4,none⟩ (.int .i64 lf):=⟨_,rfl⟩
   have hzG:G.heap.size=w8.heap.size:=by rw [hG];simp
   have hne9:∀ q,q≠s+2→G.heap[q]?=w8.heap[q]?:=fun q hq=>by rw [hG];exact Below.heap_setCell w8 ⟨s+2,4,none⟩ _ q hq
   have gkG:=(hne9 _ (by omega)).trans gk8
   have g1G:G.heap[s+1]?=some (.cells zB 57 (0,0)):=(hne9 _ (by omega)).trans ((hb8.block _ (by omega)).trans HG1.out)
   have g2G:G.heap[s+2]?=some (.cells #[.int .i64 n,.int .i64 ow,.int .i64 2,.int .i64 p,.int .i64 lf] 74 (0,0)):=by rw [hG];exact set5 g2
   have hkG:∀ ts,Keeps A ts w8 G:=fun ts=>Keeps.of_alt (X:=fun b=>b=s+2) ⟨by rw [hG];rfl,by rw [hG];rfl,by rw [hG];rfl,by omega,fun b _ hx=>hne9 b hx⟩ (fun b hb _=>by subst hb;exact ⟨hAx,by omega⟩)
   have hownG:LL A b.2.1 (.slice a5 n5 c5) G:=Is.keep eL 106 (Is.stays eL 106 HAft.out.l2 hb8) (hkG _)
   have hothG:LL A (fil b.1 fs) (.slice a6 n6 c6) G:=Is.keep eL 106 (Is.stays eL 106 HAft.out.l1 hb8) (hkG _)
   have hflG:FL A fs (.slice af kf cf) G:=Is.keep eFl 159 (Is.stays eFl 159 HAft.out.fl hb8) (hkG _)
   have hbG:Below s w G:=(HAft.out.bel.trans (hb8.mono (by omega))).trans (by rw [hG];exact low_setCell 4 _ (by omega))
   have hlfq:1≤lf∧lf≤1048576:=by
    have e1:=HTr.out.sum
    have e2:=sumQ_nn (fs:=fs) (fun f hf=>(HFls.out.2 f hf).1)
    omega
   have HPut:Hid (putE b.2.1 (n,ow,2,p,lf)=0∧put b.2.1 (n,ow,2,p,lf)=putL 2 (n,ow,2,p,lf) b.2.1):=lH (put_isB HRt.out.sells (by
    have:=argOk_iff.1 HArg.out
    exact omay_iff.2 (show 1≤n∧n≤1073741824∧0≤ow∧ow<64∧(2:Int)=2∧1≤p∧p≤1048576∧1≤lf∧lf≤1048576 by omega)) (fnd_lt HRt.out.ltS (by rw [HN.out];exact Int.le_refl _)))
   have hC3:C=((fil b.1 fs,putL 2 (n,ow,2,p,lf) b.2.1,n+1),fs,lf,n,0):=by
    have hcn:=HW.out.2.1
    have hdd:=HD.out
    rw [HPl.out,plRes_put hlf (by rw [HN.out];omega),show wout b 2 fs=(fil b.1 fs,b.2.1,b.2.2) from if_neg (by decide),HN.out]
    exact congrArg (fun z=>(z,fs,lf,n,0)) (if_neg (show ¬ (2:Int)=1 by decide))
   have HC3:=lH hC3
   have hfG:∀ u,G.grownBy u (some w3.heap.size)→Rw.row u (s+1+1)=#[.int .i64 n,.int .i64 ow,.int .i64 2,.int .i64 p,.int .i64 lf]∧s+1+1<u.heap.size∧w3.heap.size<u.heap.size:=fun u hu=>by
    have g:=(hu.block (s+2) (by omega) (by simp;omega)).trans g2G
    have:=hu.size
    exact ⟨by unfold Rw.row;rw [g],by omega,by omega⟩
   have hGs:∀ u,Below G.heap.size G u→u.heap[w3.heap.size]?=some (.cells #[.slice a6 n6 c6,.slice a5 n5 c5,.int .i64 n] 57 (0,0))∧u.heap[s+1]?=some (.cells zB 57 (0,0))∧u.heap[s+2]?=some (.cells #[.int .i64 n,.int .i64 ow,.int .i64 2,.int .i64 p,.int .i64 lf] 74 (0,0))∧LL A b.2.1 (.slice a5 n5 c5) u∧LL A (fil b.1 fs) (.slice a6 n6 c6) u∧FL A fs (.slice af kf cf) u∧Below s w u∧A.le u.heap.size:=fun u hu=>by
    have hz:=hu.size
    exact ⟨(hu.block _ (by omega)).trans gkG,(hu.block _ (by omega)).trans g1G,(hu.block _ (by omega)).trans g2G,Is.stays eL 106 hownG hu,Is.stays eL 106 hothG hu,Is.stays eFl 159 hflG hu,hbG.trans (hu.mono (by omega)),hA5.mono (by omega)⟩
   have HGs:=lH hGs
   have HG:=lH hG
   have hnn2:n<1073741824:=by omega
   clear hG hGs hC3 hkG hownG hothG hflG hbG gkG g1G g2G hne9 gk8 hlfq HPl g2 dN dF
   go_wp2
   rw [← HG.out]
   refine Rh.rg (fun u=>G.grownBy u (some w3.heap.size)) (fun u=>Below G.heap.size G u) (grown_stays G _) (fun _ _ h k=>nx h k) (grown_drew G _) ((Below.refl _ _).drew) [0,1,2,4,3,5,6,7,8,9,10] ?_
   repeat (first | (refine Rh.Steps.sk ?_;simp only [Act.put,sA,sB,sC]) | (refine Rh.Steps.pu (v:=?_) ?_ ?_;rotate_left;(intro w_ hS_;have hk_:=hfG w_ hS_;go_simp<;>with_reducible rfl);simp only [Act.put,sA,sB,sC]))
   refine Rh.Steps.forced (i:=3) (by kernel_rfl) ?_
   refine Rh.One.val (fun v _=>v=.slice a5 n5 c5) (fun _ _ _ h _=>h) (by rfl) (by rfl) ?_ ?_
   ·intro w_ hS_ hG_
    have gk:=(HGs.out w_ hG_).1
    have c0:w_.cell? ⟨w3.heap.size,1,none⟩=some (.slice a5 n5 c5):=by simp [World.cell?,gk]
    have hk9:=(hfG w_ hS_).2.2
    refine ⟨_,w_,?_,Below.refl _ _,rfl⟩
    clear gk hS_ hG_
    go_simp
   rintro _ _ rfl
   simp only [Act.put,sA,sB,sC]
   refine Rh.Steps.forced (i:=5) (by kernel_rfl) ?_
   refine Rh.One.call (fun v u=>∃ a k c,v=.tuple #[.slice a k c,.int .i64 0]∧LL A (putL 2 (n,ow,2,p,lf) b.2.1) (.slice a k c) u) (fun v _ _ h k=>by obtain ⟨a,k',c,e,h⟩:=h;exact ⟨a,k',c,e,Is.stays eL 106 h k⟩) (f:=?_) (args:=?_) (by rfl) (by rfl) ?_ ?_ ?_
   rotate_left 2
   ·intro w_ hS_ hG_;go_simp<;>first | with_reducible rfl | (constructor<;>with_reducible rfl)
   ·intro w_ hS_ hG_;(go_at_call 189;obtain ⟨_,_,_,l9,_,_,_,la9⟩:=HGs.out w_ hG_.1;refine (put_any A b.2.1 _ n ow 2 p lf w_ l9 la9 h3 h4).mono ?_;rintro e w' ⟨t,rfl,hb9,hl9⟩;rw [HPut.out.1,HPut.out.2] at *;obtain ⟨a,c,ht⟩:=hl9.len;subst ht;exact ⟨_,rfl,hb9,_,_,_,rfl,hl9⟩)
   intro v2 u_ hv2
   simp only [Act.put,sA,sB,sC]
   obtain ⟨a7,n7,c7,rfl,_⟩:=hv2
   repeat (first | (refine Rh.Steps.sk ?_;simp only [Act.put,sA,sB,sC]) | (refine Rh.Steps.pu (v:=?_) ?_ ?_;rotate_left;(intro w_ hS_;have hk_:=hfG w_ hS_;go_simp<;>with_reducible rfl);simp only [Act.put,sA,sB,sC]))
   refine Rh.Steps.forced (i:=10) (by kernel_rfl) ?_
   refine Rh.One.store (fun u=>u.heap[w3.heap.size]?=some (.cells #[.slice a6 n6 c6,.slice a7 n7 c7,.int .i64 n] 57 (0,0))∧u.heap[s+1]?=some (.cells zB 57 (0,0))∧u.heap[s+2]?=some (.cells #[.int .i64 n,.int .i64 ow,.int .i64 2,.int .i64 p,.int .i64 lf] 74 (0,0))∧LL A (putL 2 (n,ow,2,p,lf) b.2.1) (.slice a7 n7 c7) u∧LL A (fil b.1 fs) (.slice a6 n6 c6) u∧FL A fs (.slice af kf cf) u∧Below s w u∧s+2<w3.heap.size) (fun u u' h k=>by
    obtain ⟨q1,q2,q3,q4,q5,q6,q7,q8⟩:=h
    have hz:=(Array.getElem?_eq_some_iff.1 q1).1
    exact ⟨(k.block _ hz).trans q1,(k.block _ (by omega)).trans q2,(k.block _ (by omega)).trans q3,Is.stays eL 106 q4 k,Is.stays eL 106 q5 k,Is.stays eFl 159 q6 k,q7.trans (k.mono (by omega)),q8⟩) (by rfl) (by rfl) ?_ ?_
   ·intro w_ hS_ hG_
    obtain ⟨⟨hg,_⟩,a9,k9,c9,e9,hl9⟩:=hG_
    simp only [Value.tuple.injEq,Array.mk.injEq,List.cons.injEq,Value.slice.injEq,and_true] at e9
    obtain ⟨rfl,rfl,rfl⟩:=e9
    obtain ⟨gk,g1,g2,_,lo,lfl,bl,_⟩:=HGs.out w_ hg
    have c0:w_.cell? ⟨w3.heap.size,1,none⟩=some (.slice a5 n5 c5):=by simp [World.cell?,gk]
    have f0:w_.frozen? ⟨w3.heap.size,1,none⟩=false:=by simp [World.frozen?,gk]
    have hk9:=(hfG w_ hS_).2.2
    have hkp:∀ ts,57 ∉ ts→Keeps A ts w_ (w_.setCell ⟨w3.heap.size,1,none⟩ (.slice a7 n7 c7)):=fun ts ht=>keeps_setCell 1 _ gk ht (by omega)
    refine ⟨w_.setCell ⟨w3.heap.size,1,none⟩ (.slice a7 n7 c7),?_,grown_trans hS_ (Ro.setCell_grown w_ w3.heap.size 1 _),set3 gk,(Below.heap_setCell w_ ⟨w3.heap.size,1,none⟩ _ (s+1) (by show s+1≠w3.heap.size;omega)).trans g1,(Below.heap_setCell w_ ⟨w3.heap.size,1,none⟩ _ (s+2) (by show s+2≠w3.heap.size;omega)).trans g2,Is.keep eL 106 hl9 (hkp _ (by decide)),Is.keep eL 106 lo (hkp _ (by decide)),Is.keep eFl 159 lfl (hkp _ (by decide)),bl.trans (low_setCell 1 _ (by omega)),by omega⟩
    clear gk g1 g2 lo lfl bl hl9 hkp hS_ hg
    go_simp
   refine Rh.Steps.nil (by kernel_rfl) ?_
   rintro w9 _ ⟨gk,g1,g2,ln,lo,lfl,bl,hsk⟩
   have hz9:=(Array.getElem?_eq_some_iff.1 gk).1
   have c2':w9.cell? ⟨w3.heap.size,2,none⟩=some (.int .i64 n):=by simp [World.cell?,gk]
   have f2':w9.frozen? ⟨w3.heap.size,2,none⟩=false:=by simp [World.frozen?,gk]
   have hwn:IntKind.i64.wrap (n+1)=n+1:=IntWalk.i64_in _ (by omega)
   obtain ⟨N,hN⟩:∃ N,N=w9.setCell ⟨w3.heap.size,2,none⟩ (.int .i64 (n+1)):=⟨_,rfl⟩
   have hzN:N.heap.size=w9.heap.size:=by rw [hN];simp
   have hneN:∀ q,q≠w3.heap.size→N.heap[q]?=w9.heap[q]?:=fun q hq=>by rw [hN];exact Below.heap_setCell w9 ⟨w3.heap.size,2,none⟩ _ q hq
   have gkN:N.heap[w3.heap.size]?=some (.cells #[.slice a6 n6 c6,.slice a7 n7 c7,.int .i64 (n+1)] 57 (0,0)):=by rw [hN];exact set3 gk
   have hkN:∀ ts,57 ∉ ts→Keeps A ts w9 N:=fun ts ht=>by rw [hN];exact keeps_setCell 2 _ gk ht (by omega)
   have hl7:LL A (putL 2 (n,ow,2,p,lf) b.2.1) (.slice a7 n7 c7) N:=Is.keep eL 106 ln (hkN _ (by decide))
   have hoO:LL A (fil b.1 fs) (.slice a6 n6 c6) N:=Is.keep eL 106 lo (hkN _ (by decide))
   have hfN:FL A fs (.slice af kf cf) N:=Is.keep eFl 159 lfl (hkN _ (by decide))
   have hbN:Below s w N:=bl.trans (by rw [hN];exact low_setCell 2 _ (by omega))
   have g1N:=(hneN (s+1) (by omega)).trans g1
   have g2N:=(hneN (s+2) (by omega)).trans g2
   obtain ⟨r0,p1,e1,e2,e3,e4⟩:=finP (b:=(fil b.1 fs,putL 2 (n,ow,2,p,lf) b.2.1,n+1)) (n:=n+1) rfl gkN g1N rfl hAlo hoO hl7 hfN hbN
   have z8:N.cell? ⟨s+1+1,0,none⟩=some (.int .i64 n):=by simp [World.cell?,g2N]
   have z9:(N.setRow (s+1) #[.slice a6 n6 c6,.slice a7 n7 c7,.int .i64 (n+1)]).cell? ⟨s+1+1,0,none⟩=some (.int .i64 n):=by
    simp only [World.cell?]
    rw [setRow_other N (s+1) (s+1+1) _ (by omega),g2N];rfl
   have HZ:=lH (show _∧_∧_∧_ from ⟨e1,e2.drew,e3.stays (Below.refl _ _).drew,Is.stays eFl 159 e4 (Below.refl _ _).drew⟩)
   have hN1:s+1<N.heap.size:=by omega
   have hN2:s+1+1<N.heap.size:=by omega
   have hN3:w3.heap.size<N.heap.size:=by omega
   have HN':=lH hN
   clear e1 e2 e3 e4 hN hneN gkN hkN hl7 hoO hfN hbN g1N g2N gk g1 g2 ln lo lfl bl hfG
   go_wp2
   rw [← HN'.out]
   go_region
   go_wp2
   refine bodyPost_ret (v:=.tuple #[.agg #[.slice a6 n6 c6,.slice a7 n7 c7,.int .i64 (n+1)],.slice af kf cf,.int .i64 lf,.int .i64 n,.int .i64 0]) (ret_B5 Tryz.results151 _ _ rfl ?c1) rfl ?c3
   case c1=>first | exact HZ.out.1 | (simp only [go_sem];exact HZ.out.1)
   case c3=>rw [HC3.out];exact ⟨_,_,rfl,by rw [HS.out];exact HZ.out.2.1,HZ.out.2.2.1.up hAB,Is.up eFl 159 hAB HZ.out.2.2.2⟩
end Go.Proofs.YtjhocpcpkemcaaaGreat.Bk
