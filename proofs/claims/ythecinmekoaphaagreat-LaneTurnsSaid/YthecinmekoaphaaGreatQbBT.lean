/- Package book as it landed: match. -/
import Derived.Test.YthecinmekoaphaaGreatQbZZ
import Derived.Test.YthecinmekoaphaaGreatQbAS
import Derived.Test.YthecinmekoaphaaGreatQbBG
set_option linter.unusedVariables false
set_option maxRecDepth 16000
set_option maxHeartbeats 32000000
namespace Go.Proofs.YthecinmekoaphaaGreat.Bk
open Go.RowKit
open Rw
open Da
open Le
theorem fill_app {B : Bs} {n cg : Nat} {ag : Option Addr} {gs : List Fl} {V : World} (o1 o2 o3 o4 o5 n0 : Int) (d : Bool) (hd : d=decide (n0=o5)) (hBn : B.le n) (hsz : n≤V.heap.size) (hown : OwnFl B n gs (.slice ag gs.length cg) V) (hgl : gs.length≤1000000) :
  ∃ v8 w8,appRun Tryz.prog 41 41 (.slice ag gs.length cg) (.slice (some ⟨V.heap.size,0,none⟩) 1 1) (V.alloc (.cells #[.int .i64 o1,.int .i64 o2,.int .i64 o4,.int .i64 n0,.bool d] 91))=.ok v8 w8∧OwnFl B n (gs++[mkF (o1,o2,o3,o4,o5) n0]) v8 w8∧Below n V w8∧Keeps B [70] V w8:=by
 subst hd
 obtain ⟨U,hU⟩ : ∃ U,U=V.alloc (.cells #[.int .i64 o1,.int .i64 o2,.int .i64 o4,.int .i64 n0,.bool (decide (n0=o5))] 91):=⟨_,rfl⟩
 have hbU : Below V.heap.size V U:=hU ▸ below1 V _
 have hzU : U.heap.size=V.heap.size+1:=by rw [hU];simp
 have hsrc : Is eFl 91 B [mkF (o1,o2,o3,o4,o5) n0] (.slice (some ⟨V.heap.size,0,none⟩) 1 1) U:=by
  rw [hU];exact Is.one (e:=eFl) (T:=91) (B:=B) (x:=mkF (o1,o2,o3,o4,o5) n0) (cs:=[.int .i64 o1,.int .i64 o2,.int .i64 o4,.int .i64 n0,.bool (decide (n0=o5))]) (w:=V) (hBn.mono (by omega)) rfl
 obtain ⟨v8,w8,hrun,hown8,_,hbl,hkp⟩:=Own.append elemFl 41 typesFl hBn (by omega) (Own.stays hown hbU) hsrc (by simp only [List.length_singleton];omega) (by omega)
 rw [hU] at hrun
 exact ⟨v8,w8,hrun,hown8,(hbU.mono (by omega)).trans (hbl _ U (Nat.le_refl _) (Below.refl _ _)),(Keeps.of_below hbU).trans (hkp _ (by decide))⟩
def MaP (B : Bs) (r : Option (List Fl × Int)) (w : World) (e : Ending) (w' : World) : Prop :=
 ∃ fv lf er,e=.returned (.tuple #[fv,.int .i64 lf,.int .i64 er])∧Below w.heap.size w w'∧er=(if r.isSome then 0 else 11)∧(∃ a n c,fv=.slice a n c)∧∀ x,r=some x→lf=x.2∧FL B x.1 fv w'
theorem row_below {w w' : World} {n b : Nat} (h : Below n w w') (hb : b<n) : Rw.row w' b=Rw.row w b:=by unfold Rw.row;rw [h.block b hb]
theorem match_any (B : Bs) (l : List Lv) (v : Value) (i ow s p q : Int) (w : World) (h : LL B l v w) (hB : B.le w.heap.size) (hm : l.length≤1000000) (hf : (flat l).length≤1000000) (hq : 0≤q∧q≤1048576) (hl : ∀ o∈flat l,0≤olf o∧olf o≤1048576) :
  Calls Tryz.prog 87 #[v,.agg #[.int .i64 i,.int .i64 ow,.int .i64 s,.int .i64 p,.int .i64 q]] w (MaP B (tr ow s p (flat l) q) w):=by
 obtain ⟨a1,c1,rfl⟩:=h.len
 obtain ⟨os,hos⟩ : ∃ os,flat l=os:=⟨_,rfl⟩
 have HOl:=lH hl
 rw [hos] at HOl ⊢
 have hm2 : os.length≤1000000:=by rw [← hos];exact hf
 obtain ⟨U,hU⟩ : ∃ U,U=w.alloc (.cells #[.int .i64 i,.int .i64 ow,.int .i64 s,.int .i64 p,.int .i64 q] 70):=⟨_,rfl⟩
 have hbU : Below w.heap.size w U:=hU ▸ below1 w _
 have hzU : U.heap.size=w.heap.size+1:=by rw [hU];simp
 have m0 : U.cell? ⟨w.heap.size,4,none⟩=some (.int .i64 q):=by rw [hU];simp [go_sem]
 have HX:=lH h
 have HOs:=lH hos
 have HU:=lH hU
 obtain ⟨W,hW⟩ : ∃ W,W=(U.alloc (.cells #[] 91)).drew:=⟨_,rfl⟩
 have hbW : Below U.heap.size U W:=hW ▸ (below1 U _).drew
 have hzW : W.heap.size=w.heap.size+2:=by rw [hW];simp [hzU]
 have hbw:=nx hbU hbW
 have hownW : OwnFl B (w.heap.size+1) [] (.slice (some ⟨w.heap.size+1,0,none⟩) 0 0) W:=by
  have:=Own.made (e:=eFl) (T:=91) B U U.heap.size (Nat.le_refl _)
  rw [hzU] at this
  rw [hW];exact this.stays (Below.refl _ _).drew
 have hrow : Rw.row U w.heap.size=#[.int .i64 i,.int .i64 ow,.int .i64 s,.int .i64 p,.int .i64 q]:=by rw [HU.out];unfold Rw.row;rw [heap_alloc_new]
 have HOw0:=lH hownW
 have HW:=lH hW
 have HRow:=lH hrow
 have hLW : LL B l (.slice a1 l.length c1) W:=Is.stays eL 98 h hbw
 have HLW:=lH hLW
 have HBW : Hid (B.le W.heap.size):=lH (hB.mono hbw.size)
 rw [hzU] at hbW
 clear h hl hos hU hownW hrow hW hLW
 go_enter Tryz.func87,Tryz.ntmps87
 go_wp2_with fail
 rw [← HU.out]
 go_region
 go_wp2_with fail
 rw [← HW.out]
 refine (ords_big B l _ W HLW.out HBW.out hm hf).mono ?_
 rintro e w1 ⟨v1,rfl,hb1,hol⟩
 rw [HOs.out] at hol
 obtain ⟨a2,c2,rfl,hel⟩:=id hol
 obtain ⟨m,hmm⟩ : ∃ m,m=os.length:=⟨_,rfl⟩
 rw [← hmm] at hm2 ⊢
 have HM:=lH hmm
 have HE:=lH hel
 have HOw1:=lH (HOw0.out.stays hb1)
 have HT0:=lH (cat_nil (tr ow s p os q)).symm
 have hbU1 : Below (w.heap.size+1) U w1:=hbW.trans (hb1.mono (by rw [hzW];omega))
 have HBn : Hid (B.le (w.heap.size+1)):=lH (hB.mono (by omega))
 have hbF : ∀ u : World,Below (w.heap.size+1) w1 u→Below w.heap.size w u:=fun u hu=>hbU.trans ((hbU1.trans hu).mono (Nat.le_succ _))
 clear hmm hol hel
 go_wp2
 go_loopw [7,8,18] (fun t qv i wr=>∃ (j : Nat) (gs : List Fl) (qj : Int),j≤m∧i=.int .i64 j∧qv=.int .i64 qj∧Below (w.heap.size+1) w1 wr∧Keeps B [70] w1 wr∧(0≤qj∧qj≤1048576)∧OwnFl B (w.heap.size+1) gs t wr∧gs.length≤j∧tr ow s p os q=Cat gs (tr ow s p (os.drop j) qj)) (fun _ _ i _=>m - (intOf i).toNat)
 case atStart=>exact ⟨0,[],q,Nat.zero_le _,rfl,rfl,Below.refl _ _,Keeps.refl _ _ _,hq,HOw1.out,Nat.le_refl _,HT0.out⟩
 case round =>
  obtain ⟨j,gs,qj,hj,rfl,rfl,hb,hkp,hqj,hown,hgl,htr⟩:=hrel
  have HOw:=lH hown
  have HTr:=lH htr
  have HBw:=lH hb
  have HKp:=lH hkp
  have hrw : Rw.row wr w.heap.size=#[.int .i64 i,.int .i64 ow,.int .i64 s,.int .i64 p,.int .i64 q]:=by
   rw [row_below (hbU1.trans hb) (Nat.lt_succ_self _)];exact HRow.out
  clear hown htr
  have hszw : w.heap.size+2≤wr.heap.size:=by have:=hb.size;have:=hb1.size;omega
  obtain ⟨ag,cg,hgis⟩:=(HOw.out.is (by decide) HBn.out).len
  subst hgis
  by_cases hjm : j<m
  ·have hjm2 : (j : Int)<m:=by omega
   have hjo : j<os.length:=by rw [← HM.out];exact hjm
   rcases HE.out with ⟨e,_⟩ | ⟨b2,off2,rfl,hat2⟩
   ·rw [e] at hjo;cases hjo
   have hat3:=Lies.keep eO 70 hat2 hkp
   have hc5:=at5 hat3 j hjo
   have hbb:=hat3.1
   have hod:=HOl.out _ (List.getElem_mem hjo)
   have hdr : os.drop j=os[j] :: os.drop (j+1):=List.drop_eq_getElem_cons hjo
   obtain ⟨⟨o1,o2,o3,o4,o5⟩,ho⟩ : ∃ o,os[j]=o:=⟨_,rfl⟩
   rw [ho] at hc5 hod hdr
   simp only [olf] at hc5 hod
   obtain ⟨z0,z1,z2,z3,z4⟩:=hc5
   have htr:=HTr.out
   rw [hdr] at htr
   have HTd:=lH htr
   have hss : w.heap.size<wr.heap.size:=by omega
   clear hat2 hat3 ho hdr htr hb hkp
   by_cases hq0 : qj=0
   ·have hd : (qj==0)=true:=by simpa using hq0
    have HR:=lH (HTd.out.trans (cat_stop (.inl hq0)))
    clear hq0
    go_wp2
    go_ret3
    exact ⟨_,_,0,rfl,nx (hbF wr HBw.out) (below1 _ _),by rw [HR.out];rfl,⟨_,_,_,rfl⟩,fun x hx=>by rw [HR.out] at hx;obtain rfl:=Option.some.inj hx;exact ⟨rfl,Is.stays eFl 91 (HOw.out.is (by decide) HBn.out) (below1 _ _)⟩⟩
   ·have hd : (qj==0)=false:=by simpa using hq0
    cases hmt : meets s p o4
    ·have HMt:=lH hmt
     have HR:=lH (HTd.out.trans (cat_stop (.inr hmt)))
     clear hmt hq0
     go_wp2_with fail
     refine (meets_any _ _ _ _ _ _ _ _ _ _ _).mono ?_
     rintro e w2 ⟨rfl,hb2⟩
     rw [HMt.out]
     go_wp2
     go_ret3
     exact ⟨_,_,0,rfl,nx (nx (hbF wr HBw.out) (below1 _ _)) hb2,by rw [HR.out];rfl,⟨_,_,_,rfl⟩,fun x hx=>by rw [HR.out] at hx;obtain rfl:=Option.some.inj hx;exact ⟨rfl,Is.stays eFl 91 (HOw.out.is (by decide) HBn.out) (nx (below1 _ _) hb2)⟩⟩
    ·have HMt:=lH hmt
     have hnn : ¬ (qj=0∨meets s p (opr (o1,o2,o3,o4,o5))=false):=by
      rintro (h | h)
      ·exact hq0 h
      ·rw [show opr (o1,o2,o3,o4,o5)=o4 from rfl,hmt] at h;cases h
     obtain ⟨X,hX⟩ : ∃ X,X=wr.alloc (.cells #[.int .i64 o1,.int .i64 o2,.int .i64 o3,.int .i64 o4,.int .i64 o5] 70):=⟨_,rfl⟩
     have hbX : Below wr.heap.size wr X:=hX ▸ below1 wr _
     have hzX : X.heap.size=wr.heap.size+1:=by rw [hX];simp
     have hF : ∀ u,Below X.heap.size X u→u.cell? ⟨wr.heap.size,0,none⟩=some (.int .i64 o1)∧u.cell? ⟨wr.heap.size,1,none⟩=some (.int .i64 o2)∧u.cell? ⟨wr.heap.size,3,none⟩=some (.int .i64 o4)∧u.cell? ⟨wr.heap.size,4,none⟩=some (.int .i64 o5)∧u.cell? ⟨w.heap.size,1,none⟩=some (.int .i64 ow):=fun u hu=>by
      refine ⟨?_,?_,?_,?_,?_⟩
      ·rw [hu.cell (p:=⟨wr.heap.size,0,none⟩) (by rw [hzX];exact Nat.lt_succ_self _),hX];simp [go_sem]
      ·rw [hu.cell (p:=⟨wr.heap.size,1,none⟩) (by rw [hzX];exact Nat.lt_succ_self _),hX];simp [go_sem]
      ·rw [hu.cell (p:=⟨wr.heap.size,3,none⟩) (by rw [hzX];exact Nat.lt_succ_self _),hX];simp [go_sem]
      ·rw [hu.cell (p:=⟨wr.heap.size,4,none⟩) (by rw [hzX];exact Nat.lt_succ_self _),hX];simp [go_sem]
      ·have:=((hbU1.trans HBw.out).trans ((hbX.trans (hu.mono (by omega))).mono (by omega))).block w.heap.size (Nat.lt_succ_self _)
       have hc:=this.trans (show U.heap[w.heap.size]?=some (.cells #[.int .i64 i,.int .i64 ow,.int .i64 s,.int .i64 p,.int .i64 q] 70 (0,0)) by rw [HU.out];exact heap_alloc_new w _)
       simp [World.cell?,hc]
     have HFx:=lH hF
     have HX:=lH hX
     clear hF hX
     by_cases how : o2=ow
     ·have hd2 : (o2==ow)=true:=by simpa using how
      have HR:=lH (HTd.out.trans (cat_self hnn how))
      clear hmt hq0 how hnn
      go_wp2_with fail
      refine (meets_any _ _ _ _ _ _ _ _ _ _ _).mono ?_
      rintro e w2 ⟨rfl,hb2⟩
      rw [HMt.out]
      rw [← HX.out] at hb2
      obtain ⟨c0,c1',c3,c4,c5⟩:=HFx.out w2 hb2
      have hz2:=hb2.size
      go_wp2
      go_ret3
      exact ⟨_,_,11,rfl,nx (nx (hbF wr HBw.out) hbX) hb2,by rw [HR.out];rfl,⟨_,_,_,rfl⟩,fun x hx=>by rw [HR.out] at hx;cases hx⟩
     ·have hd2 : (o2==ow)=false:=by simpa using how
      have HR:=lH (HTd.out.trans (cat_go hnn how))
      clear hmt hq0 how hnn
      by_cases hmn : o5<qj
      ·have hmin : min qj (olf (o1,o2,o3,o4,o5))=o5:=by simp only [olf];omega
       rw [hmin] at HR
       go_wp2_with fail
       refine (meets_any _ _ _ _ _ _ _ _ _ _ _).mono ?_
       rintro e w2 ⟨rfl,hb2⟩
       rw [HMt.out]
       rw [← HX.out] at hb2
       obtain ⟨c0,c1',c3,c4,c5⟩:=HFx.out w2 hb2
       have hz2:=hb2.size
       obtain ⟨v8,w8,hrun,hown8,hb8,hk8⟩:=fill_app o1 o2 o3 o4 o5 o5 true (by simp) HBn.out (by omega) (HOw.out.stays (nx hbX hb2)) (by omega)
       have HRel:=lH (show Below (w.heap.size+1) w1 w8∧Keeps B [70] w1 w8∧OwnFl B (w.heap.size+1) (gs++[mkF (o1,o2,o3,o4,o5) o5]) v8 w8 from ⟨HBw.out.trans (((nx hbX hb2).mono (by omega)).trans hb8),HKp.out.trans ((Keeps.of_below (nx hbX hb2)).trans hk8),hown8⟩)
       obtain ⟨a8,n8,c8,rfl⟩ : ∃ a n c,v8=.slice a n c:=by obtain ⟨a,c,h⟩:=(hown8.is (by decide) HBn.out).len;exact ⟨a,_,c,h⟩
       clear hmin hown8 hb8 hk8
       go_wp2
       go_roundw
       case rel=>exact ⟨j+1,gs++[mkF (o1,o2,o3,o4,o5) o5],qj - o5,by omega,by go_num,by go_num,HRel.out.1,HRel.out.2.1,by omega,HRel.out.2.2,by simp only [List.length_append,List.length_singleton];omega,HR.out⟩
       case measure=>simp [intOf];omega
      ·have hmin : min qj (olf (o1,o2,o3,o4,o5))=qj:=by simp only [olf];omega
       rw [hmin] at HR
       go_wp2_with fail
       refine (meets_any _ _ _ _ _ _ _ _ _ _ _).mono ?_
       rintro e w2 ⟨rfl,hb2⟩
       rw [HMt.out]
       rw [← HX.out] at hb2
       obtain ⟨c0,c1',c3,c4,c5⟩:=HFx.out w2 hb2
       have hz2:=hb2.size
       obtain ⟨v8,w8,hrun,hown8,hb8,hk8⟩:=fill_app o1 o2 o3 o4 o5 qj (qj==o5) rfl HBn.out (by omega) (HOw.out.stays (nx hbX hb2)) (by omega)
       have HRel:=lH (show Below (w.heap.size+1) w1 w8∧Keeps B [70] w1 w8∧OwnFl B (w.heap.size+1) (gs++[mkF (o1,o2,o3,o4,o5) qj]) v8 w8 from ⟨HBw.out.trans (((nx hbX hb2).mono (by omega)).trans hb8),HKp.out.trans ((Keeps.of_below (nx hbX hb2)).trans hk8),hown8⟩)
       obtain ⟨a8,n8,c8,rfl⟩ : ∃ a n c,v8=.slice a n c:=by obtain ⟨a,c,h⟩:=(hown8.is (by decide) HBn.out).len;exact ⟨a,_,c,h⟩
       clear hmin hown8 hb8 hk8
       go_wp2
       go_roundw
       case rel=>exact ⟨j+1,gs++[mkF (o1,o2,o3,o4,o5) qj],qj - qj,by omega,by go_num,by go_num,HRel.out.1,HRel.out.2.1,by omega,HRel.out.2.2,by simp only [List.length_append,List.length_singleton];omega,HR.out⟩
       case measure=>simp [intOf];omega
  ·obtain rfl : j=m:=by omega
   have HR : Hid (tr ow s p os q=some (gs,qj)):=lH (by rw [HTr.out,show os.drop j=[] from List.drop_eq_nil_of_le (by rw [HM.out];exact Nat.le_refl _)];simp [tr,Cat])
   go_wp2
   go_ret3
   exact ⟨_,_,0,rfl,hbF wr HBw.out,by rw [HR.out];rfl,⟨_,_,_,rfl⟩,fun x hx=>by rw [HR.out] at hx;obtain rfl:=Option.some.inj hx;exact ⟨rfl,HOw.out.is (by decide) HBn.out⟩⟩
end Go.Proofs.YthecinmekoaphaaGreat.Bk
