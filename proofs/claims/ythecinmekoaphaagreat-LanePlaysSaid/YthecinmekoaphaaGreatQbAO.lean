/- The document's own Remove, with what it says of the rows. -/
import Derived.Test.YthecinmekoaphaaGreatQbZZ
import Derived.Test.YthecinmekoaphaaGreatQbAM
import Derived.Test.YthecinmekoaphaaGreatQbAK
import Derived.Test.YthecinmekoaphaaGreatQbAC
import Derived.Test.YthecinmekoaphaaGreatQbAH
import Derived.Test.YthecinmekoaphaaGreatQbAN
set_option linter.unusedVariables false
set_option maxRecDepth 16000
set_option maxHeartbeats 32000000
namespace Go.Proofs.YthecinmekoaphaaGreat.Le
open Go.RowKit
open Rw
open Da
theorem rRemove2_any (B : Bs) (l : List Lv) (v : Value) (id : Int) (w : World) (h : LL B l v w) (hB : B.le w.heap.size) (hm : l.length≤1000000) (hf : (flat l).length≤1000000) :
  Calls Tryz.prog 78 #[v,.int .i64 id] w (Post3 (fun v u=>∃ hs,Is eF 98 B hs v u∧Mine B w.heap.size (rem l id) hs u) (fnd (flat l) id) w):=by
 obtain ⟨W,hW⟩ : ∃ W,W=(w.alloc (.cells #[.int .i64 0,.int .i64 0,.int .i64 0,.int .i64 0,.int .i64 0] 70)).alloc (.cells #[.int .i64 0,.int .i64 0,.int .i64 0,.int .i64 0,.int .i64 0] 70):=⟨_,rfl⟩
 have hbW : Below w.heap.size w W:=hW ▸ below2 w _ _
 have hzW : W.heap.size=w.heap.size+2:=by rw [hW];simp
 have hv1 : Var w.heap.size none W:=by rw [hW];exact (Var.made w).stays (below1 _ _)
 have hv2 : Var (w.heap.size+1) none W:=by
  have:=Var.made (w.alloc (.cells #[.int .i64 0,.int .i64 0,.int .i64 0,.int .i64 0,.int .i64 0] 70))
  rw [World.size_alloc] at this
  rw [hW];exact this
 obtain ⟨B',hB'⟩ : ∃ B',B'=B.but (fun b=>b=w.heap.size∨b=w.heap.size+1):=⟨_,rfl⟩
 have hle : B'.le (w.heap.size+2):=by rw [hB'];exact Bs.but_le (hB.mono (by omega)) (fun b hb=>by omega)
 have hnow : LL B' l v W:=by rw [hB'];exact Is.stays eL 98 (Is.now eL 98 h (fun b hb=>by omega)) hbW
 have hsub : B'.sub B:=by rw [hB'];exact Bs.sub_but _ _
 have hex : ∀ b,b=w.heap.size∨b=w.heap.size+1→B'.ex b∧B'.lo≤b:=fun b hb=>by rw [hB'];exact ⟨.inr hb,by have:=hB.1;show B.lo≤b;omega⟩
 have HLe:=lH hle
 have HSub:=lH hsub
 have HEx:=lH hex
 have HV1:=lH hv1
 have HV2:=lH hv2
 have HFl:=lH hf
 have HW:=lH hW
 obtain ⟨a1,c1,rfl,h1⟩:=hnow
 have HA:=lH h1
 obtain ⟨n,hn⟩ : ∃ n,n=l.length:=⟨_,rfl⟩
 rw [← hn] at hm ⊢
 have HN:=lH hn
 obtain ⟨r,hr⟩ : ∃ r,fnd (flat l) id=r:=⟨_,rfl⟩
 rw [hr]
 have HR:=lH hr
 clear hle hsub hex hv1 hv2 hf hW h1 hn hr hB' h
 go_enter Tryz.func78,Tryz.ntmps78
 go_wp2
 rw [← HW.out]
 go_loopw [7,9,17] (fun t f i wr=>∃ k : Nat,k≤n∧i=.int .i64 k∧f=.bool ((flat (l.take k)).any (hasId id))∧Alt (fun b=>b=w.heap.size+1) W wr∧(∃ hs,OwnF B' (w.heap.size+2) hs t wr∧Mine B' (w.heap.size+2) (remL id (l.take k) false) hs wr)∧Var (w.heap.size+1) (fnd (flat (l.take k)) id) wr∧Var w.heap.size none wr) (fun _ _ i _=>n - (intOf i).toNat)
 case atStart=>exact ⟨0,Nat.zero_le _,rfl,rfl,Alt.refl _ _,⟨[],Own.nil _ _ _,Mine.nil _ _ _⟩,HV2.out,HV1.out⟩
 case round =>
  obtain ⟨wo,rfl⟩ : ∃ wo : World,wo=wr:=⟨_,rfl⟩
  obtain ⟨k,hk,rfl,rfl,hal,⟨hs,hown,hmine⟩,hvg,hvr⟩:=hrel
  have HO:=lH hown
  have HMi:=lH hmine
  clear hmine
  have HVg:=lH hvg
  have HVr:=lH hvr
  have HAl:=lH hal
  have hszo : w.heap.size+2≤wo.heap.size:=by have:=hal.size;omega
  have HBo : Hid (Below w.heap.size w wo):=lH (Alt.below hbW hal (by omega) (fun b hb=>by omega))
  clear hown hvg hvr
  by_cases hlt : k<n
  ·have hlt2 : (k : Int)<n:=by omega
   have hkl : k<l.length:=by rw [← HN.out];exact hlt
   rcases HA.out with ⟨e,_⟩ | ⟨b,off,rfl,hat0⟩
   ·rw [e] at hkl;cases hkl
   have hat:=Lies.keep eL 98 hat0 (Keeps.of_alt hal (fun b hb _=>HEx.out b (.inr hb)))
   obtain ⟨x,q0,q1,hx⟩:=atL hat k hkl
   have hbb:=hat.1
   obtain ⟨a2,c2,rfl⟩:=hx.len
   have hle:=flat_take_le l (k+1)
   have hfs:=flat_take_snoc hkl
   have hrs:=remL_snoc id l[k] (l.take k) false
   rw [← take_all hkl,Bool.false_or] at hrs
   rw [hfs,List.length_append] at hle
   obtain ⟨⟨pr,os⟩,hlk⟩ : ∃ y,l[k]=y:=⟨_,rfl⟩
   rw [hlk] at q0 q1 hle hx hfs hrs
   simp only at q0 q1 hle hx hfs hrs
   have HFs:=lH hfs
   have HRs:=lH hrs
   have HX0:=lH hx
   have hosl : os.length≤1000000:=by have:=HFl.out;omega
   obtain ⟨V,hV⟩ : ∃ V,V=(wo.alloc (.cells #[.int .i64 pr,.slice a2 os.length c2] 98)).alloc (.cells #[.int .i64 pr,.slice none 0 0] 98):=⟨_,rfl⟩
   have hbV : Below wo.heap.size wo V:=hV ▸ below2 wo _ _
   have hzV : V.heap.size=wo.heap.size+2:=by rw [hV];simp
   have hbox : V.heap[wo.heap.size+1]?=some (.cells #[.int .i64 pr,.slice none 0 0] 98 (0,0)):=by
    have:=heap_alloc_new (wo.alloc (.cells #[.int .i64 pr,.slice a2 os.length c2] 98)) (.cells #[.int .i64 pr,.slice none 0 0] 98)
    rw [World.size_alloc] at this
    rw [hV];exact this
   have HBox:=lH hbox
   have HVV:=lH hV
   have HG1 : Hid (Var (w.heap.size+1) (fnd (flat (l.take k)) id) V):=lH (HVg.out.stays hbV)
   have HR1 : Hid (Var w.heap.size none V):=lH (HVr.out.stays hbV)
   obtain ⟨d0,hd0⟩ : ∃ d0,(flat (l.take k)).any (hasId id)=d0:=⟨_,rfl⟩
   rw [hd0]
   have HD0:=lH hd0
   clear hbox hV hle hx hlk hat hat0 hfs hrs hd0
   go_wp2
   rw [← HVV.out]
   go_loopw [9,27] (fun f i wr=>∃ j : Nat,j≤os.length∧i=.int .i64 j∧f=.bool (d0||(os.take j).any (hasId id))∧Alt (fun b=>b=w.heap.size+1) wo wr∧Var (w.heap.size+1) (fnd (flat (l.take k)++os.take j) id) wr∧Var w.heap.size none wr ∧
    ∃ x,wr.heap[wo.heap.size+1]?=some (.cells #[.int .i64 pr,x] 98 (0,0))∧OwnO B' (wo.heap.size+2) (remO id (os.take j) d0) x wr) (fun _ i _=>os.length - (intOf i).toNat)
   case atStart=>exact ⟨0,Nat.zero_le _,rfl,by simp,Alt.of_below hbV,by simpa using HG1.out,HR1.out,_,HBox.out,Own.nil _ _ _⟩
   case round =>
    obtain ⟨wi,rfl⟩ : ∃ wi : World,wi=wr:=⟨_,rfl⟩
    obtain ⟨j,hj,rfl,rfl,hai,hgi,hri,x,hbx,hox⟩:=hrel
    obtain ⟨fl,hfl⟩ : ∃ fl,(d0||(os.take j).any (hasId id))=fl:=⟨_,rfl⟩
    rw [hfl]
    have hle2 : B'.le (wo.heap.size+2):=HLe.out.mono (by omega)
    have hzi : wo.heap.size+1<wi.heap.size:=(Array.getElem?_eq_some_iff.1 hbx).1
    obtain ⟨a3,c3,hx3⟩:=(hox.is (by decide) hle2).len
    subst hx3
    have hga : (flat (l.take k)++os.take j).any (hasId id)=fl:=by rw [List.any_append,HD0.out];exact hfl
    have k0 : wi.cell? ⟨wo.heap.size+1,0,none⟩=some (.int .i64 pr):=by simp [World.cell?,hbx]
    have k1 : wi.cell? ⟨wo.heap.size+1,1,none⟩=some (.slice a3 (remO id (os.take j) d0).length c3):=by simp [World.cell?,hbx]
    by_cases hjm : j<os.length
    ·have hjm2 : (j : Int)<os.length:=by omega
     have hol:=Is.keep eO 70 HX0.out (Keeps.of_alt hai (fun b hb _=>HEx.out b (.inr hb)))
     rcases hol.cases with ⟨e,_⟩ | ⟨_,b2,off2,cc,e,hat2⟩
     ·rw [e] at hjm;cases hjm
     simp only [Value.slice.injEq] at e
     obtain ⟨rfl,_,rfl⟩:=e
     have hbb2:=hat2.1
     obtain ⟨⟨o1,o2,o3,o4,o5⟩,ho⟩ : ∃ o,os[j]=o:=⟨_,rfl⟩
     have hc5:=at5 hat2 j hjm
     rw [ho] at hc5
     simp only at hc5
     obtain ⟨z0,z1,z2,z3,z4⟩:=hc5
     have hts : os.take (j+1)=os.take j++[(o1,o2,o3,o4,o5)]:=by rw [Da.take_snoc hjm,ho]
     have hfn:=fnd_snoc (flat (l.take k)++os.take j) (o1,o2,o3,o4,o5) id
     have hro:=remO_snoc id (o1,o2,o3,o4,o5) (os.take j) d0
     rw [List.append_assoc,← hts,hga] at hfn
     rw [← hts,hfl] at hro
     have hfa : (d0||(os.take (j+1)).any (hasId id))=(fl||hasId id (o1,o2,o3,o4,o5)):=by rw [hts,List.any_append,← Bool.or_assoc,hfl];simp
     have hpg : plain 5 wi (w.heap.size+1)=true:=hgi.plain
     have hzg : w.heap.size+1<wi.heap.size:=hgi.lt
     have HGi:=lH hgi
     have HRi:=lH hri
     have HAi:=lH hai
     have HBx:=lH hbx
     have HOx:=lH hox
     have HFn:=lH hfn
     have HRo:=lH hro
     have HFa:=lH hfa
     have HGa:=lH hga
     clear ho hat2 hol hts hfn hro hfa hgi hri hai hbx hox hga hfl
     by_cases hway : o1=id∧fl=false
     ·obtain ⟨he,rfl⟩:=hway
      have hd : (o1==id)=true:=by simpa using he
      have hh : hasId id (o1,o2,o3,o4,o5)=true:=hd
      have HHh:=lH hh
      clear he k0 k1 hh
      have HRel:=lH (roundA (B':=B') (pr:=pr) (Bo:=wo.heap.size+2) (o:=(o1,o2,o3,o4,o5)) HAi.out HGi.out HRi.out HBx.out HOx.out hle2 (by omega) hzi (by have:=hal.size;omega) (HEx.out _ (.inr rfl)))
      go_wp2
      go_roundw
      case rel=>exact ⟨j+1,by omega,by go_num,by rw [HFa.out,HHh.out];rfl,HRel.out.1,by rw [HFn.out,HHh.out];exact HRel.out.2.1,HRel.out.2.2.1,_,HRel.out.2.2.2.1,by rw [HRo.out,HHh.out,show (true&&!false)=true from rfl,if_pos rfl,List.append_nil];exact HRel.out.2.2.2.2⟩
      case measure=>simp [intOf];omega
     ·obtain ⟨U,hU⟩ : ∃ U,U=wi.alloc (.cells #[.int .i64 o1,.int .i64 o2,.int .i64 o3,.int .i64 o4,.int .i64 o5] 70):=⟨_,rfl⟩
      have hbU : Below wi.heap.size wi U:=hU ▸ below1 wi _
      have hzU : U.heap.size=wi.heap.size+1:=by rw [hU];simp
      obtain ⟨V2,hV2⟩ : ∃ V2,V2=U.alloc (.cells #[.int .i64 o1,.int .i64 o2,.int .i64 o3,.int .i64 o4,.int .i64 o5] 70):=⟨_,rfl⟩
      have hbV2 : Below U.heap.size U V2:=hV2 ▸ below1 U _
      have hzV2 : V2.heap.size=wi.heap.size+2:=by rw [hV2];simp;omega
      have hbUV:=nx hbU hbV2
      have hrm:=remO_len id (os.take j) d0
      rw [List.length_take] at hrm
      have hsrc : Is eO 70 B' [(o1,o2,o3,o4,o5)] (.slice (some ⟨U.heap.size,0,none⟩) 1 1) V2:=by
       rw [hV2];exact Is.one (e:=eO) (T:=70) (B:=B') (x:=(o1,o2,o3,o4,o5)) (cs:=[.int .i64 o1,.int .i64 o2,.int .i64 o3,.int .i64 o4,.int .i64 o5]) (w:=U) (hle2.mono (by omega)) rfl
      obtain ⟨v6,w6,hrun,hown6,_,hbl,_⟩:=Own.append elemO 64 typesO hle2 (by omega) (HOx.out.stays hbUV) hsrc (by simp;omega) (by omega)
      obtain ⟨a6,n6,c7,rfl⟩ : ∃ a n c,v6=.slice a n c:=by obtain ⟨a,c,h⟩:=(hown6.is (by decide) hle2).len;exact ⟨a,_,c,h⟩
      have hlow : Below (wo.heap.size+2) wi w6:=(hbUV.mono (by omega)).trans (hbl _ V2 (Nat.le_refl _) (Below.refl _ _))
      have hbx6 : w6.heap[wo.heap.size+1]?=some (.cells #[.int .i64 pr,.slice a3 (remO id (os.take j) d0).length c3] 98 (0,0)):=(hlow.block _ (by omega)).trans HBx.out
      have hlo:=HLe.out.1
      have HRel:=lH (roundB (B':=B') (Bo:=wo.heap.size+2) HAi.out HGi.out HRi.out hbx6 hown6 hlow hle2 (by omega) (by omega))
      have c6 : w6.cell? ⟨wo.heap.size+1,1,none⟩=some (.slice a3 (remO id (os.take j) d0).length c3):=by simp [World.cell?,hbx6]
      have f6 : w6.frozen? ⟨wo.heap.size+1,1,none⟩=false:=by simp [World.frozen?,hbx6]
      have HNw : Hid ((hasId id (o1,o2,o3,o4,o5)&&!fl)=false):=lH (by
       cases hc : (hasId id (o1,o2,o3,o4,o5)&&!fl)
       ·rfl
       ·exfalso;apply hway;simp [hasId] at hc;exact hc)
      rw [hU] at hV2
      rw [hV2] at hrun
      rw [hU,World.size_alloc] at hrun
      clear hU hV2 hbU hzU hbV2 hzV2 hbUV hrm hsrc hown6 hbl hlow hbx6 hlo
      by_cases he : o1=id
      ·have hd : (o1==id)=true:=by simpa using he
       have hfl : fl=true:=by
        cases fl
        ·exact absurd ⟨he,rfl⟩ hway
        ·rfl
       subst hfl
       clear hway he
       go_wp2
       go_roundw
       case rel=>exact ⟨j+1,by omega,by go_num,by rw [HFa.out];rfl,HRel.out.1,by rw [HFn.out,if_pos rfl];exact HRel.out.2.1,HRel.out.2.2.1,_,HRel.out.2.2.2.1,by rw [HRo.out,HNw.out,if_neg (by decide)];exact HRel.out.2.2.2.2⟩
       case measure=>simp [intOf];omega
      ·have hd : (o1==id)=false:=by simpa using he
       have hh : Hid (hasId id (o1,o2,o3,o4,o5)=false):=lH hd
       have HF2 : Hid (fnd (flat (l.take k)++os.take (j+1)) id=fnd (flat (l.take k)++os.take j) id):=lH (by
        rw [HFn.out,hh.out]
        have ha:=any_some (flat (l.take k)++os.take j) id
        rw [HGa.out] at ha
        cases fl
        ·rw [if_neg (by decide),if_neg (by decide)]
         exact (Option.not_isSome_iff_eq_none.1 (by rw [← ha];decide)).symm
        ·rw [if_pos rfl])
       clear hway he
       go_wp2
       go_roundw
       case rel=>exact ⟨j+1,by omega,by go_num,by rw [HFa.out,hh.out,Bool.or_false],HRel.out.1,by rw [HF2.out];exact HRel.out.2.1,HRel.out.2.2.1,_,HRel.out.2.2.2.1,by rw [HRo.out,HNw.out,if_neg (by decide)];exact HRel.out.2.2.2.2⟩
       case measure=>simp [intOf];omega
    ·obtain rfl : j=os.length:=by omega
     rw [List.take_length] at hgi hfl hox hga k1 hbx
     have hls:=Own.keep (HLe.out.mono (Nat.le_refl _)) HO.out (Keeps.of_alt hai (fun b hb _=>HEx.out b (.inr hb)))
     have hmi:=Mine.keep HLe.out HMi.out (Keeps.of_alt hai (fun b hb _=>HEx.out b (.inr hb)))
     have hsl:=HMi.out.len
     have hg9 : Var (w.heap.size+1) (fnd (flat (l.take (k+1))) id) wi:=by rw [HFs.out];exact hgi
     have hrl:=remL_len id (l.take k) false
     rw [List.length_take] at hrl
     have hf9 : Hid (((flat (l.take (k+1))).any (hasId id))=fl):=lH (by rw [HFs.out];exact hga)
     have ha9:=HAl.out.trans hai
     obtain ⟨L,hL⟩ : ∃ L,remO id os d0=L:=⟨_,rfl⟩
     have HRs2:=HRs.out
     unfold remS at HRs2
     rw [HD0.out] at HRs2
     simp only at HRs2
     rw [hL] at hox k1 hbx HRs2
     obtain ⟨n3,hn3⟩ : ∃ n3,L.length=n3:=⟨_,rfl⟩
     rw [hn3] at k1 hbx hox
     by_cases hz : L=[]
     ·rw [if_pos hz,List.append_nil] at HRs2
      subst hz
      obtain rfl : 0=n3:=hn3
      have HRel:=lH (show _∧(∃ hs,OwnF B' (w.heap.size+2) hs u7 wi∧Mine B' (w.heap.size+2) (remL id (l.take (k+1)) false) hs wi)∧_∧_ from ⟨ha9,⟨hs,hls,by rw [HRs2];exact hmi⟩,hg9,hri⟩)
      clear hls hmi hg9 hrl ha9 HRs2 hL hox hbx hgi hri hai hfl hga
      go_wp2
      go_roundw
      case rel=>exact ⟨k+1,by omega,by go_num,by rw [hf9.out],HRel.out.1,HRel.out.2.1,HRel.out.2.2.1,HRel.out.2.2.2⟩
      case measure=>simp [intOf];omega
     ·rw [if_neg hz] at HRs2
      have hp3 : 0<n3:=by rw [← hn3];exact List.length_pos_iff.2 hz
      have hp4 : (0 : Int)<n3:=by omega
      obtain ⟨U,hU⟩ : ∃ U,U=wi.alloc (.cells #[.int .i64 pr,.slice a3 n3 c3] 98):=⟨_,rfl⟩
      have hbU : Below wi.heap.size wi U:=hU ▸ below1 wi _
      have hzU : U.heap.size=wi.heap.size+1:=by rw [hU];simp
      have hsrc : Is eF 98 B' [(pr,a3,n3,c3)] (.slice (some ⟨wi.heap.size,0,none⟩) 1 1) U:=by
       rw [hU];exact Is.one (e:=eF) (T:=98) (B:=B') (x:=(pr,a3,n3,c3)) (cs:=[.int .i64 pr,.slice a3 n3 c3]) (w:=wi) (HLe.out.mono (by omega)) rfl
      obtain ⟨v8,w8,hrun,hown8,_,hbl,hkp⟩:=Own.append elemF 23 typesF HLe.out (by omega) (hls.stays hbU) hsrc (by simp only [List.length_singleton];omega) (by omega)
      have hk8:=hkp [70] (by decide)
      have hm8 : Mine B' (w.heap.size+2) (remL id (l.take k) false++[(pr,L)]) (hs++[(pr,a3,n3,c3)]) w8:=Mine.snoc ((hmi.stays hbU).keep HLe.out hk8) HMi.out (Nat.le_add_right _ 2) (by omega) rfl (Own.keep hle2 (hox.stays hbU) hk8)
      have hlow : Below (w.heap.size+2) wi w8:=(hbU.mono (by omega)).trans (hbl _ U (Nat.le_refl _) (Below.refl _ _))
      have HRel:=lH (show _∧(∃ hs,OwnF B' (w.heap.size+2) hs v8 w8∧Mine B' (w.heap.size+2) (remL id (l.take (k+1)) false) hs w8)∧_∧_ from ⟨alt_low ha9 hlow (by omega),⟨_,hown8,by rw [HRs2];exact hm8⟩,hg9.same (hlow.block _ (by omega)),hri.same (hlow.block _ (by omega))⟩)
      rw [hU] at hrun
      clear hls hmi hm8 hk8 hkp hg9 hrl ha9 HRs2 hL hox hbx hgi hri hai hfl hga hn3 hU hbU hzU hsrc hown8 hbl hlow hz
      go_wp2
      go_roundw
      case rel=>exact ⟨k+1,by omega,by go_num,by rw [hf9.out],HRel.out.1,HRel.out.2.1,HRel.out.2.2.1,HRel.out.2.2.2⟩
      case measure=>simp [intOf];omega
  ·obtain rfl : k=n:=by omega
   have e1 : l.take k=l:=by rw [HN.out,List.take_length]
   have hg9:=HVg.out
   have ho9:=HMi.out
   rw [e1] at hg9 ho9 ⊢
   rw [HR.out] at hg9
   have hA9 : (flat l).any (hasId id)=r.isSome:=by rw [any_some,HR.out]
   rw [hA9]
   have hrow : row wo (w.heap.size+1)=cO r:=hg9.row
   have hpl : plain 5 wo w.heap.size=true:=HVr.out.plain
   have hcs:=cO_size r
   have h1c : oneAll (.agg (cO r))=true:=by cases r<;>exact one5 _ _ _ _ _
   have hzr : w.heap.size<wo.heap.size:=by omega
   have hzg : w.heap.size+1<wo.heap.size:=by omega
   have HO9:=lH ho9
   clear hal ho9 hg9 e1 hA9
   go_wp2
   have hZ : Below w.heap.size w (wo.setRow w.heap.size (cO r)).drew∧∃ hs,Is eF 98 B hs u7 (wo.setRow w.heap.size (cO r)).drew∧Mine B w.heap.size (rem l id) hs (wo.setRow w.heap.size (cO r)).drew:=by
    have ha9:=alt_setRow (Alt.refl (fun b=>b=w.heap.size) wo) (b:=w.heap.size) rfl (cO r)
    have hk9:=Keeps.of_alt (B:=B') (ts:=98 :: eF.ts) ha9 (fun b hb _=>HEx.out b (.inl hb))
    have hk8:=Keeps.of_alt (B:=B') (ts:=[70]) ha9 (fun b hb _=>HEx.out b (.inl hb))
    have hm9:=(Mine.keep HLe.out HO9.out hk8).stays (Below.refl _ _).drew
    refine ⟨(below_setRow HBo.out (Nat.le_refl _) _).drew,hs,?_,hm9.len,fun i x y hx hy=>⟨(hm9.own i x y hx hy).1,Own.lower (hm9.own i x y hx hy).2 (by omega)⟩,hm9.apart⟩
    have:=(HO.out.is (by decide) HLe.out).keep eF 98 hk9
    exact Is.stays eF 98 (this.up eF 98 HSub.out) (Below.refl _ _).drew
   have hrZ : row (wo.setRow w.heap.size (cO r)) w.heap.size=cO r:=by
    obtain ⟨t,ht⟩:=HVr.out
    unfold Rw.row
    rw [setRow_heap wo w.heap.size _ _ _ _ ht]
   have HZ:=lH hZ
   clear hZ
   go_region
   go_wp2
   refine bodyPost_ret (v:=.tuple #[u7,.agg (cO r),.bool r.isSome]) (ret_OM Tryz.results78 _ _ hcs ?c1) rfl ⟨u7,rfl,HZ.out.1,HZ.out.2⟩
   case c1=>simp [go_sem,hrZ]
theorem rLevels2_any (B : Bs) (l : List Lv) (v : Value) (w : World) (h : LL B l v w) (hB : B.le w.heap.size) (hm : l.length≤1000000) (hf : (flat l).length≤1000000) :
  Calls Tryz.prog 116 #[v] w (Post (fun v w'=>∃ hs,Is eF 98 B hs v w'∧Mine B w.heap.size l hs w') w):=by
 rcases h.cases with ⟨rfl,a,c,rfl⟩ | ⟨hne,b,off,c,rfl,hat⟩
 ·clear h
  go_enter Tryz.func116,Tryz.ntmps116
  go_wp2
  go_loopw [3,8] (fun t i wr=>i=.int .i64 0∧t=.slice none 0 0∧Below w.heap.size w wr) (fun _ i _=>0)
  case atStart=>exact ⟨rfl,rfl,Below.refl _ _⟩
  case round =>
   obtain ⟨rfl,rfl,hb⟩:=hrel
   go_wp2
   go_ret
   exact ⟨_,rfl,hb,[],Is.nil _ _ _ _,Mine.nil _ _ _⟩
 ·have hbb : b<w.heap.size:=hat.1
  have HA:=lH hat
  have HF:=lH hf
  obtain ⟨n,hn⟩ : ∃ n,n=l.length:=⟨_,rfl⟩
  rw [← hn] at hm ⊢
  have HN:=lH hn
  clear h hat hn hne hf
  go_enter Tryz.func116,Tryz.ntmps116
  go_wp2
  go_loopw [3,8] (fun t i wr=>∃ k : Nat,k≤n∧i=.int .i64 k∧Below w.heap.size w wr∧∃ hs,OwnF B w.heap.size hs t wr∧Mine B w.heap.size (l.take k) hs wr) (fun _ i _=>n - (intOf i).toNat)
  case atStart=>exact ⟨0,Nat.zero_le _,rfl,Below.refl _ _,[],Own.nil _ _ _,Mine.nil _ _ _⟩
  case round =>
   obtain ⟨k,hk,rfl,hb,hs,hown,hmine⟩:=hrel
   have HO:=lH hown
   have HM:=lH hmine
   clear hown hmine
   by_cases hlt : k<n
   ·have hlt2 : (k : Int)<n:=by omega
    have hkl : k<l.length:=by rw [← HN.out];exact hlt
    obtain ⟨x,q0,q1,hx⟩:=atL HA.out k hkl
    obtain ⟨c1,f1,r1,p1⟩:=bcell hb
    obtain ⟨⟨pr,os⟩,hlk⟩ : ∃ y,l[k]=y:=⟨_,rfl⟩
    have ht:=take_all hkl
    have hle:=flat_take_le l (k+1)
    rw [flat_take_snoc hkl,List.length_append] at hle
    rw [hlk] at q0 hx ht hle
    simp only at q0 hx ht hle
    have HT:=lH ht
    have HS : Hid (os.length≤1000000):=lH (by have:=HF.out;omega)
    clear ht hle hlk
    obtain ⟨a2,c2,rfl⟩:=hx.len
    obtain ⟨V,hV⟩ : ∃ V,V=wr.alloc (.cells #[.int .i64 pr,.slice a2 os.length c2] 98):=⟨_,rfl⟩
    have hbV : Below wr.heap.size wr V:=hV ▸ below1 wr _
    have hsz:=hb.size
    have hzV : wr.heap.size<V.heap.size:=by rw [hV];simp
    have s0 : V.cell? ⟨wr.heap.size,0,none⟩=some (.int .i64 pr):=by rw [hV];simp [go_sem]
    have s1 : V.cell? ⟨wr.heap.size,1,none⟩=some (.slice a2 os.length c2):=by rw [hV];simp [go_sem]
    have hbw:=nx hb hbV
    have HX:=lH (Is.stays eO 70 (Is.stays eO 70 hx hb) hbV)
    have HOV:=lH (HO.out.stays hbV)
    have HMV:=lH (HM.out.stays hbV)
    have hne : some wr.heap.size≠u3.ownBlock:=fun e=>by have:=(Own.block HO.out _ e.symm).2;omega
    have hF : ∀ u,V.grownBy u u3.ownBlock→u.cell? ⟨wr.heap.size,0,none⟩=some (.int .i64 pr)∧u.cell? ⟨wr.heap.size,1,none⟩=some (.slice a2 os.length c2):=fun u hu =>
     ⟨by rw [grown_cell hu hzV hne];exact s0,by rw [grown_cell hu hzV hne];exact s1⟩
    clear hx
    go_wp2
    rw [← hV]
    clear s0 s1 hV
    refine Rh.rg (fun u=>V.grownBy u u3.ownBlock) (fun u=>Below V.heap.size V u) (grown_stays V _) (fun _ _ h k=>nx h k) (grown_drew V _) ((Below.refl _ _).drew) [0,1,2,4,5,3,6,7,8,9,10] ?_
    repeat (first | (refine Rh.Steps.sk ?_;simp only [Act.put,sA,sB,sC]) | (refine Rh.Steps.pu (v:=?_) ?_ ?_;rotate_left;(intro w_ hS_;have hk_:=hF w_ hS_;go_simp<;>with_reducible rfl);simp only [Act.put,sA,sB,sC]))
    refine Rh.Steps.forced (i:=3) (by kernel_rfl) ?_
    refine Rh.One.val (fun v u=>OwnO B V.heap.size [] v u) (fun v _ _ h k=>h.stays k) (by rfl) (by rfl) ?_ ?_
    ·intro w_ hS_ hG_
     refine ⟨_,_,?_,below1 w_ (.cells #[] 70),Own.made B w_ V.heap.size hS_.size⟩
     go_simp
    intro v1 u1 hv1
    simp only [Act.put,sA,sB,sC]
    refine Rh.Steps.forced (i:=6) (by kernel_rfl) ?_
    refine Rh.One.new (fun v u=>Below V.heap.size V u∧OwnO B V.heap.size os v u) (fun v _ _ h k=>⟨nx h.1 k,h.2.stays k⟩) (by rfl) (by rfl) ?_ ?_
    ·intro w_ hS_ hG_
     obtain ⟨v2,w2,hrun,hown2,hg2,hbl,_⟩:=Own.append elemO 64 typesO (hB.mono hbw.size) hS_.size hG_.2 (Is.stays eO 70 HX.out hG_.1) (by have:=HS.out;simp;omega) (by omega)
     have hb2:=hbl _ _ (Nat.le_refl _) hG_.1
     refine ⟨v2,w2,?_,grown_below _ hb2,hb2,by simpa using hown2⟩
     go_simp
    intro v2 u2 hv2
    simp only [Act.put,sA,sB,sC]
    obtain ⟨a3,n3,c3,rfl⟩ : ∃ a n c,v2=.slice a n c:=by obtain ⟨a,c,h⟩:=(hv2.2.is (by decide) (hB.mono hbw.size)).len;exact ⟨a,_,c,h⟩
    repeat (first | (refine Rh.Steps.sk ?_;simp only [Act.put,sA,sB,sC]) | (refine Rh.Steps.pu (v:=?_) ?_ ?_;rotate_left;(intro w_ hS_;have hk_:=hF w_ hS_;go_simp<;>with_reducible rfl);simp only [Act.put,sA,sB,sC]))
    refine Rh.Steps.forced (i:=8) (by kernel_rfl) ?_
    refine Rh.One.val (fun v u=>Is eF 98 B [(pr,a3,n3,c3)] v u) (fun v _ _ h k=>Is.stays eF 98 h k) (by rfl) (by rfl) ?_ ?_
    ·intro w_ hS_ hG_
     refine ⟨_,_,?_,below1 w_ (.cells #[.int .i64 pr,.slice a3 n3 c3] 98),Is.one (e:=eF) (x:=(pr,a3,n3,c3)) (cs:=[.int .i64 pr,.slice a3 n3 c3]) (hB.mono (Nat.le_trans hbw.size hS_.size)) rfl⟩
     go_simp
    intro v3 u4 hv3
    simp only [Act.put,sA,sB,sC]
    refine Rh.Steps.forced (i:=9) (by kernel_rfl) ?_
    refine Rh.One.new (fun v u=>Below w.heap.size w u∧OwnF B w.heap.size (hs++[(pr,a3,n3,c3)]) v u∧Mine B w.heap.size (l.take (k+1)) (hs++[(pr,a3,n3,c3)]) u) (fun v _ _ h k=>⟨nx h.1 k,h.2.1.stays k,h.2.2.stays k⟩) (by rfl) (by rfl) ?_ ?_
    ·intro w_ hS_ hG_
     have hbu:=hG_.1.1
     obtain ⟨v2,w2,hrun,hown2,hg2,hbl,hkp⟩:=Own.append elemF 23 typesF hB (Nat.le_trans hbw.size hS_.size) (HOV.out.stays hbu) hG_.2 (by have:=HM.out.len;have:=List.length_take_le k l;simp only [List.length_singleton];omega) (by omega)
     have hk2:=hkp [70] (by decide)
     refine ⟨v2,w2,?_,grown_trans hS_ hg2,hbl _ _ (Nat.le_refl _) (nx hbw hbu),hown2,?_⟩
     ·go_simp
     ·rw [HT.out]
      exact Mine.snoc ((HMV.out.stays hbu).keep hB hk2) HMV.out (Nat.le_refl _) hbw.size rfl (Own.keep (hB.mono hbw.size) hG_.1.2 hk2)
    intro v4 u5 hv4
    simp only [Act.put,sA,sB,sC]
    repeat (first | (refine Rh.Steps.sk ?_;simp only [Act.put,sA,sB,sC]) | (refine Rh.Steps.pu (v:=?_) ?_ ?_;rotate_left;(intro w_ hS_;have hk_:=hF w_ hS_;go_simp<;>with_reducible rfl);simp only [Act.put,sA,sB,sC]))
    refine Rh.Steps.nil (by kernel_rfl) ?_
    intro w4 _ hG4
    have HG:=lH hG4
    clear hG4
    go_wp2
    go_roundw
    case rel=>exact ⟨k+1,by omega,by go_num,HG.out.1,_,HG.out.2.1,HG.out.2.2⟩
    case measure=>simp [intOf];omega
   ·obtain rfl : k=n:=by omega
    have e1 : l.take k=l:=by rw [HN.out,List.take_length]
    have HZ:=HO
    have hm9:=HM.out
    rw [e1] at hm9
    have HM9:=lH hm9
    clear hm9 e1
    go_wp2
    go_ret
    exact ⟨_,rfl,hb,_,HZ.out.is (by decide) hB,HM9.out⟩
end Go.Proofs.YthecinmekoaphaaGreat.Le
namespace Go.Proofs.YthecinmekoaphaaGreat.Bk
open Go.RowKit
open Rw
open Da
open Le
theorem plain_setCell (m : Nat) (w : World) (b c o : Nat) (v : Value) : plain m (w.setCell ⟨b,o,none⟩ v) c=plain m w c:=by
 unfold plain
 simp only [World.setCell,Array.getElem?_modify]
 by_cases h : b=c
 ·subst h
  simp only [if_true]
  cases w.heap[b]? with
  | none=>rfl
  | some x=>cases x<;>simp
 ·simp only [h,if_false]
section
variable (ρ : Operand→Value) (dst : Option Tmp) (ty : TypeId) (pos : String) (after : Array Edge) (guard : Option (Nat × Bool)) (w : World)
theorem loadB (x : Operand) (h : (rowOf w (ρ x)).size=3) : (execOp ρ { dst,op:=.load 25 x,type:=ty,pos,after,guard }).run Tryz.prog w=.ok (.value (.agg (rowOf w (ρ x)))) w :=
 exec_load (n:=2) ρ dst ty pos after guard w Tryz.underlying25 rfl (by kernel_rfl) x h
theorem storeB (p x : Operand) (h : plainAt 3 w (ρ p)=true) (hs : (ρ x).cells.size=3) (h1 : oneAll (ρ x)=true) (ha : ρ x=.agg (ρ x).cells) : (execOp ρ { dst,op:=.store 25 p x,type:=ty,pos,after,guard }).run Tryz.prog w=.ok .skip (putRow w (ρ p) (ρ x).cells) :=
 exec_store (n:=2) ρ dst ty pos after guard w (by kernel_rfl) p x h hs h1 ha
end
theorem one3 (a c : Option Addr) (n m d e : Nat) (x : Int) : oneAll (.agg #[.slice a n d,.slice c m e,.int .i64 x])=true:=by simp [oneAll,Value.cells,Value.oneCell']
theorem size3 (a b c : Value) : (#[a,b,c] : Array Value).size=3:=rfl
attribute [go_sem ↓] loadB storeB
attribute [go_sem] one3 size3 plain_setCell
theorem ret_B1 {fn : Func} {p : Tmp} (h : fn.results=#[.cell p 25]) (tmps : Array Value) (w : World) {cs : Array Value} (hs : cs.size=3) (hr : rowOf w (tmps.getD p undef)=cs) : (results fn tmps).run Tryz.prog w=.ok (.agg cs) w :=
 ret1 (n:=2) h Tryz.underlying25 rfl (by kernel_rfl) tmps w hs hr
def BL (B : Bs) (b : Bk) (v : Value) (w : World) : Prop:=∃ x y,v=.agg #[x,y,.int .i64 b.2.2]∧LL B b.1 x w∧LL B b.2.1 y w
theorem BL.stays {B : Bs} {b : Bk} {v : Value} {w w' : World} (h : BL B b v w) (hb : Below w.heap.size w w') : BL B b v w':=by
 obtain ⟨x,y,e,h1,h2⟩:=h
 exact ⟨x,y,e,Is.stays eL 98 h1 hb,Is.stays eL 98 h2 hb⟩
def cellsF (f : Fl) : List Value:=[.int .i64 f.1,.int .i64 f.2.1,.int .i64 f.2.2.1,.int .i64 f.2.2.2.1,.bool f.2.2.2.2]
def eFl : Enc Fl:=Enc.flat 5 cellsF (fun _=>rfl) (fun o u hu=>by simp [cellsF] at hu;rcases hu with rfl | rfl | rfl | rfl | rfl<;>rfl)
abbrev FL (B : Bs) (l : List Fl) (v : Value) (w : World) : Prop:=Is eFl 91 B l v w
abbrev OwnFl (B : Bs) (Bo : Nat) (l : List Fl) (v : Value) (w : World) : Prop:=Own eFl 91 B Bo l v w
theorem typesFl : 91 ∉ eFl.ts:=by decide
theorem infoFl : (Tryz.prog.info? 91).map (fun i=>(i.zero,i.size,i.bytes))=some (some (.agg #[.int .i64 0,.int .i64 0,.int .i64 0,.int .i64 0,.bool false]),5,40):=by kernel_rfl
theorem elemFl : Elem Tryz.prog 41 91 eFl.k 40:=elem_of Tryz.underlying41 infoFl rfl (by decide)
theorem atFl {B : Bs} {l : List Fl} {b off : Nat} {w : World} (h : Lies eFl 91 B l b off w) (i : Nat) (hi : i<l.length) :
  w.cell? ⟨b,off+i*5,none⟩=some (.int .i64 l[i].1)∧w.cell? ⟨b,off+i*5+1,none⟩=some (.int .i64 l[i].2.1)∧w.cell? ⟨b,off+i*5+2,none⟩=some (.int .i64 l[i].2.2.1)∧w.cell? ⟨b,off+i*5+3,none⟩=some (.int .i64 l[i].2.2.2.1)∧w.cell? ⟨b,off+i*5+4,none⟩=some (.bool l[i].2.2.2.2):=by
 obtain ⟨cs,rfl,hu⟩:=h.at i hi
 exact ⟨hu 0 _ rfl,hu 1 _ rfl,hu 2 _ rfl,hu 3 _ rfl,hu 4 _ rfl⟩
def prO (q : Option Od) : Int:=match q with
 | some o=>opr o
 | none=>0
theorem cO_3 (q : Option Od) : (cO q)[3]?=some (.int .i64 (prO q)):=by cases q<;>rfl
theorem bestP_is (l : List Lv) : bestP l=prO (flat l).head?:=by unfold bestP prO;cases (flat l).head?<;>rfl
theorem rMeets_any (s p x : Int) (w : World) : Calls Tryz.prog 125 #[.int .i64 s,.int .i64 p,.int .i64 x] w fun e w'=>e=.returned (.bool (meets s p x))∧w=w':=by
 by_cases h : s=1
 ·have hd : (s==1)=true:=by simpa using h
  have H : Hid (meets s p x=decide (x≤p)):=lH (if_pos h)
  clear h
  go_enter Tryz.func125,Tryz.ntmps125
  go_wp2
  go_ret
  exact ⟨ret_bool H.out.symm,rfl⟩
 ·have hd : (s==1)=false:=by simpa using h
  have H : Hid (meets s p x=decide (p≤x)):=lH (if_neg h)
  clear h
  go_enter Tryz.func125,Tryz.ntmps125
  go_wp2
  go_ret
  exact ⟨ret_bool H.out.symm,rfl⟩
theorem rMeets_is {s p x : Int} {r : Bool} (h : Hid (meets s p x=r)) (w : World) : Calls Tryz.prog 125 #[.int .i64 s,.int .i64 p,.int .i64 x] w fun e w'=>e=.returned (.bool r)∧w=w':=by
 rw [← h.out];exact rMeets_any s p x w
theorem rAgainst_any (x y : Value) (n s : Int) (w : World) : Calls Tryz.prog 94 #[.agg #[x,y,.int .i64 n],.int .i64 s] w fun e w'=>e=.returned (if s=1 then y else x)∧Below w.heap.size w w':=by
 by_cases h : s=1
 ·have hd : (s==1)=true:=by simpa using h
  rw [if_pos h]
  clear h
  go_enter Tryz.func94,Tryz.ntmps94
  go_wp2
  go_ret
  exact ⟨rfl,below1 _ _⟩
 ·have hd : (s==1)=false:=by simpa using h
  rw [if_neg h]
  clear h
  go_enter Tryz.func94,Tryz.ntmps94
  go_wp2
  go_ret
  exact ⟨rfl,below1 _ _⟩
theorem rNew_any (w : World) : Calls Tryz.prog 31 #[] w fun e w'=>e=.returned (.agg #[.slice none 0 0,.slice none 0 0,.int .i64 1])∧Below w.heap.size w w':=by
 go_enter Tryz.func31,Tryz.ntmps31
 go_wp2
 refine bodyPost_ret (v:=.agg #[.slice none 0 0,.slice none 0 0,.int .i64 1]) (ret_B1 Tryz.results31 _ _ rfl ?c1) rfl ⟨rfl,below1 _ _⟩
 case c1=>simp [go_sem]
theorem rTop_any (B : Bs) (b : Bk) (v : Value) (w : World) (h : BL B b v w) (h1 : b.1.length≤1000000) (h2 : (flat b.1).length≤1000000) (h3 : b.2.1.length≤1000000) (h4 : (flat b.2.1).length≤1000000) :
  Calls Tryz.prog 103 #[v] w fun e w'=>e=.returned (.tuple #[.int .i64 (bestP b.1),.int .i64 (bestP b.2.1)])∧Below w.heap.size w w':=by
 obtain ⟨x,y,rfl,hx,hy⟩:=h
 rw [bestP_is,bestP_is]
 obtain ⟨q1,hq1⟩ : ∃ q,(flat b.1).head?=q:=⟨_,rfl⟩
 obtain ⟨q2,hq2⟩ : ∃ q,(flat b.2.1).head?=q:=⟨_,rfl⟩
 rw [hq1,hq2]
 have HQ1:=lH hq1
 have HQ2:=lH hq2
 obtain ⟨n,hn⟩ : ∃ n,b.2.2=n:=⟨_,rfl⟩
 rw [hn]
 obtain ⟨V,hV⟩ : ∃ V,V=w.alloc (.cells #[x,y,.int .i64 n] 25):=⟨_,rfl⟩
 have hbV : Below w.heap.size w V:=hV ▸ below1 w _
 have hzV : w.heap.size<V.heap.size:=by rw [hV];simp
 obtain ⟨a1,c1,rfl⟩:=hx.len
 obtain ⟨a2,c2,rfl⟩:=hy.len
 have HX:=lH (show ∀ u,Below V.heap.size V u→LL B b.1 (.slice a1 b.1.length c1) u∧LL B b.2.1 (.slice a2 b.2.1.length c2) u from fun u hu=>⟨Is.stays eL 98 hx (nx hbV hu),Is.stays eL 98 hy (nx hbV hu)⟩)
 have HC:=lH (show ∀ u,Below V.heap.size V u→u.cell? ⟨w.heap.size,0,none⟩=some (.slice a1 b.1.length c1)∧u.cell? ⟨w.heap.size,1,none⟩=some (.slice a2 b.2.1.length c2)∧w.heap.size<u.heap.size from fun u hu=>by
  refine ⟨?_,?_,Nat.lt_of_lt_of_le hzV hu.size⟩
  ·rw [hu.cell (p:=⟨w.heap.size,0,none⟩) hzV,hV];simp [go_sem]
  ·rw [hu.cell (p:=⟨w.heap.size,1,none⟩) hzV,hV];simp [go_sem])
 have HV:=lH hV
 have hcs1:=cO_size q1
 have h1c1 : oneAll (.agg (cO q1))=true:=by cases q1<;>exact one5 _ _ _ _ _
 have hcs2:=cO_size q2
 have h1c2 : oneAll (.agg (cO q2))=true:=by cases q2<;>exact one5 _ _ _ _ _
 have ho1:=cO_3 q1
 have ho2:=cO_3 q2
 have ho2' : ∀ h,(cO q2)[3]'h=.int .i64 (prO q2):=fun h=>by cases q2<;>rfl
 have HB1:=lH h1
 have HB2:=lH h2
 have HB3:=lH h3
 have HB4:=lH h4
 clear hx hy hV hq1 hq2 hn h1 h2 h3 h4
 obtain ⟨m0,m1,mz⟩:=HC.out V (Below.refl _ _)
 go_enter Tryz.func103,Tryz.ntmps103
 go_wp2_with fail
 rw [← HV.out]
 refine (rBest_any B b.1 _ V (HX.out V (Below.refl _ _)).1 HB1.out HB2.out).mono ?_
 rintro e w1 ⟨rfl,hb1⟩
 rw [HQ1.out,fV_is]
 clear m0 m1 mz
 have hbx:=below1 w1 (.cells (cO q1) 70)
 obtain ⟨X,hX⟩ : ∃ X,X=w1.alloc (.cells (cO q1) 70):=⟨_,rfl⟩
 have hzX : w1.heap.size<X.heap.size:=by rw [hX];simp
 have hcX : X.cell? ⟨w1.heap.size,3,none⟩=some (.int .i64 (prO q1)):=by rw [hX];simp [go_sem,ho1]
 have hc1:=lH (show ∀ u,Below X.heap.size X u→u.cell? ⟨w1.heap.size,3,none⟩=some (.int .i64 (prO q1))∧w1.heap.size<u.heap.size from fun u hu=>⟨(hu.cell (p:=⟨w1.heap.size,3,none⟩) hzX).trans hcX,Nat.lt_of_lt_of_le hzX hu.size⟩)
 rw [← hX] at hbx
 have HX1:=lH hX
 have hb2:=nx hb1 hbx
 obtain ⟨m0,m1,mz⟩:=HC.out w1 hb1
 clear hX hcX
 go_wp2_with fail
 rw [← HX1.out]
 clear m0 m1 mz
 refine (rBest_any B b.2.1 _ X (HX.out X hb2).2 HB3.out HB4.out).mono ?_
 rintro e w2 ⟨rfl,hb3⟩
 rw [HQ2.out,fV_is]
 obtain ⟨k0,k1⟩:=hc1.out w2 hb3
 go_wp2
 go_region
 go_wp2
 go_ret2
 exact ⟨rfl,(nx hbV (nx hb2 (nx hb3 (below1 _ _)))).drew⟩
theorem rDone_any (B : Bs) (fs : List Fl) (v : Value) (w : World) (h : FL B fs v w) (hm : fs.length≤1000000) :
  Calls Tryz.prog 96 #[v] w fun e w'=>e=.returned (.int .i64 (dn fs : Nat))∧Below w.heap.size w w':=by
 obtain ⟨a2,c2,rfl,hel⟩:=h
 obtain ⟨m,hmm⟩ : ∃ m,m=fs.length:=⟨_,rfl⟩
 have HE:=lH hel
 rw [← hmm] at hm ⊢
 have HM:=lH hmm
 clear hel hmm
 go_enter Tryz.func96,Tryz.ntmps96
 go_wp2
 go_loopw [3,8] (fun t i wr=>∃ j : Nat,j≤m∧i=.int .i64 j∧t=.int .i64 (dn (fs.take j) : Nat)∧Below w.heap.size w wr) (fun _ i _=>m - (intOf i).toNat)
 case atStart=>exact ⟨0,Nat.zero_le _,rfl,rfl,Below.refl _ _⟩
 case round =>
  obtain ⟨j,hj,rfl,rfl,hb⟩:=hrel
  by_cases hjm : j<m
  ·have hjm2 : (j : Int)<m:=by omega
   have hjo : j<fs.length:=by rw [← HM.out];exact hjm
   rcases HE.out with ⟨e,_⟩ | ⟨b2,off2,rfl,hat2⟩
   ·rw [e] at hjo;cases hjo
   have hat3:=Lies.keep eFl 91 hat2 (Keeps.of_below hb)
   have hc5:=atFl hat3 j hjo
   have hb2:=hat3.1
   have hsn : dn (fs.take (j+1))=dn (fs.take j)+if fs[j].2.2.2.2=true then 1 else 0:=by
    unfold dn
    rw [Da.take_snoc hjo,List.filter_append,List.length_append,List.filter_cons,List.filter_nil]
    split<;>simp [*]
   have hle : dn (fs.take j)≤1000000:=by
    have:=List.length_filter_le (fun x : Fl=>x.2.2.2.2) (fs.take j)
    rw [List.length_take] at this
    unfold dn;omega
   obtain ⟨⟨o1,o2,o3,o4,o5⟩,ho⟩ : ∃ o,fs[j]'hjo=o:=⟨_,rfl⟩
   rw [ho] at hc5 hsn
   simp only at hc5 hsn
   obtain ⟨s0,s1,s2,s3,s4⟩:=hc5
   obtain ⟨d,hd⟩ : ∃ d,dn (fs.take j)=d:=⟨_,rfl⟩
   rw [hd] at hsn hle ⊢
   have hbx:=below1 wr (.cells #[.int .i64 o1,.int .i64 o2,.int .i64 o3,.int .i64 o4,.bool o5] 91)
   clear hat2 hat3 ho hd
   cases o5
   ·have HS : Hid (dn (fs.take (j+1))=d):=lH (by rw [hsn];rfl)
    clear hsn
    go_wp2
    go_roundw
    case rel=>exact ⟨j+1,by omega,by go_num,by rw [HS.out],nx hb hbx⟩
    case measure=>simp [intOf];omega
   ·have HS : Hid (dn (fs.take (j+1))=d+1):=lH (by rw [hsn];rfl)
    clear hsn
    go_wp2
    go_roundw
    case rel=>exact ⟨j+1,by omega,by go_num,by rw [HS.out];go_num,nx hb hbx⟩
    case measure=>simp [intOf];omega
  ·obtain rfl : j=m:=by omega
   have HZ : Hid (dn (fs.take j)=dn fs):=lH (by rw [HM.out,List.take_length])
   clear hjm
   go_wp2
   go_ret
   exact ⟨ret_int (by rw [HZ.out]),hb⟩
end Go.Proofs.YthecinmekoaphaaGreat.Bk
namespace Go.Proofs.YthecinmekoaphaaGreat.Bk
open Go.RowKit
open Rw
open Da
open Ro
open Le
def fOd : Flat Od:=⟨5,cellsO,fun _=>rfl,fun o u hu=>by simp [cellsO] at hu;rcases hu with rfl | rfl | rfl | rfl | rfl<;>rfl⟩
abbrev RowOd (g cap : Nat) (os : List Od) (w : World) : Prop:=Row fOd 70 g cap os w
theorem rowOd_of {B : Bs} {Bo : Nat} {os : List Od} {v : Value} {w : World} (h : OwnO B Bo os v w) {a : Nat} (ha : a<os.length) : ∃ g cap,v=.slice (some ⟨g,0,none⟩) os.length cap∧Bo≤g∧cap≤maxLen∧RowOd g cap os w:=by
 rcases Row.ofOwn (e:=fOd) (show Own fOd.enc 70 B Bo os v w from h) with ⟨_,e⟩ | ⟨g,cap,h1,h2,h3,h4⟩
 ·rw [e] at ha;cases ha
 ·exact ⟨g,cap,h1,h2,h3,h4⟩
theorem rowOd_at {g cap : Nat} {os : List Od} {u : World} (h : RowOd g cap os u) {i : Nat} {o : Od} (ho : os[i]?=some o) : u.cell? ⟨g,i*5,none⟩=some (.int .i64 o.1)∧u.cell? ⟨g,i*5+4,none⟩=some (.int .i64 (olf o))∧u.frozen? ⟨g,i*5+4,none⟩=false :=
 ⟨h.cell ho (j:=0) rfl,h.cell ho (j:=4) rfl,h.frozen _⟩
def MiL (B : Bs) (Bo : Nat) (l : List Lv) (v : Value) (w : World) : Prop:=∃ hs,Is eF 98 B hs v w∧Mine B Bo l hs w
theorem MiL.stays {B : Bs} {Bo : Nat} {l : List Lv} {v : Value} {w w' : World} (h : MiL B Bo l v w) (hb : Below w.heap.size w w') : MiL B Bo l v w':=by
 obtain ⟨hs,h1,h2⟩:=h
 exact ⟨hs,Is.stays eF 98 h1 hb,h2.stays hb⟩
theorem mine_lvs {B : Bs} {Bo : Nat} {l : List Lv} {hs : List Hw} {w : World} (hB : B.le Bo) (h : Mine B Bo l hs w) : LvS B l hs w :=
 ⟨h.len,fun i x y hx hy=>⟨(h.own i x y hx hy).1,(h.own i x y hx hy).2.is (by decide) hB⟩⟩
def Blk (hs : List Hw) (b : Nat) : Prop:=∃ (i : Nat) (y : Hw),hs[i]?=some y∧(hv y).ownBlock=some b
theorem mine_set {B : Bs} {Bo g cap : Nat} {L : List Lv} {hs : List Hw} {W : World} (hB : B.le Bo) (hM : Mine B Bo L hs W) {i k : Nat} {p : Int} {os : List Od} {y : Hw} {o : Od} (hx : L[i]?=some (p,os)) (hy : hs[i]?=some y) (hgv : hv y=.slice (some ⟨g,0,none⟩) os.length cap) (hBg : Bo≤g) (hcap : cap≤maxLen) (hr : RowOd g cap os W) (hk : os[k]?=some o) (n : Int) :
  Mine B Bo (L.set i (p,os.set k (less o n))) hs (W.setCell ⟨g,k*5+4,none⟩ (.int .i64 (olf o - n)))∧Keeps B [98] W (W.setCell ⟨g,k*5+4,none⟩ (.int .i64 (olf o - n))):=by
 have hset:=hr.setCell (i:=k) (j:=4) (x:=o) (y:=less o n) (u:=.int .i64 (olf o - n)) hk (by decide) rfl
 have hgr:=setCell_grown W g (k*5+4) (.int .i64 (olf o - n))
 refine ⟨⟨by rw [List.length_set];exact hM.len,fun j u z hu hz=>?_,hM.apart⟩,hr.keeps (by have:=hB.1;omega) (by decide) hgr⟩
 by_cases e : i=j
 ·subst e
  have hil : i<L.length:=(List.getElem?_eq_some_iff.1 hx).1
  rw [List.getElem?_set_self hil] at hu
  obtain rfl:=Option.some.inj hu
  rw [hy] at hz
  obtain rfl:=Option.some.inj hz
  refine ⟨(hM.own i _ y hx hy).1,?_⟩
  have h2 : OwnO B Bo (os.set k (less o n)) (.slice (some ⟨g,0,none⟩) (os.set k (less o n)).length cap) _:=Row.own (e:=fOd) hset hBg hcap
  rw [List.length_set,← hgv] at h2
  exact h2
 ·rw [List.getElem?_set_ne e] at hu
  obtain ⟨h1,h2⟩:=hM.own j u z hu hz
  refine ⟨h1,ownO_grown h2 hgr fun g' hg1 hg2=>?_⟩
  obtain rfl : g=g':=Option.some.inj hg2
  have hyo : (hv y).ownBlock=some g:=by rw [hgv];rfl
  rcases Nat.lt_or_gt_of_ne e with hi | hi
  ·exact hM.apart i j y z g hi hy hz hyo hg1
  ·exact hM.apart j i z y g hi hz hy hg1 hyo
def mixO (f : Od→Od) (k : Nat) (os : List Od) : List Od:=(os.take k).map f++os.drop k
theorem mixO_zero (f : Od→Od) (os : List Od) : mixO f 0 os=os:=rfl
theorem mixO_all (f : Od→Od) (os : List Od) : mixO f os.length os=os.map f:=by unfold mixO;rw [List.take_length,List.drop_length,List.append_nil]
theorem mixO_len (f : Od→Od) (k : Nat) (os : List Od) : (mixO f k os).length=os.length:=by unfold mixO;simp only [List.length_append,List.length_map,List.length_take,List.length_drop];omega
theorem mixO_get (f : Od→Od) {k : Nat} {os : List Od} (h : k<os.length) : (mixO f k os)[k]?=some os[k]:=by
 unfold mixO
 rw [List.getElem?_append_right (by simp only [List.length_map,List.length_take];omega),List.length_map,List.length_take,Nat.min_eq_left (by omega),Nat.sub_self,List.getElem?_drop,Nat.add_zero,List.getElem?_eq_getElem h]
theorem mixO_succ (f : Od→Od) {k : Nat} {os : List Od} (h : k<os.length) : mixO f (k+1) os=(mixO f k os).set k (f os[k]):=by
 unfold mixO
 rw [List.set_append_right _ _ (by simp only [List.length_map,List.length_take];omega),List.length_map,List.length_take,Nat.min_eq_left (by omega),Nat.sub_self,Da.take_snoc h,List.map_append,List.append_assoc]
 rw [show os.drop k=os[k] :: os.drop (k+1) from List.drop_eq_getElem_cons h]
 rfl
theorem mixO_same (f : Od→Od) {k : Nat} {os : List Od} (h : k<os.length) (e : f os[k]=os[k]) : mixO f (k+1) os=mixO f k os:=by
 rw [mixO_succ f h,e]
 refine List.ext_getElem? fun j=>?_
 rw [List.getElem?_set]
 by_cases hj : k=j
 ·subst hj
  rw [if_pos rfl,mixO_get f h,if_pos (by rw [mixO_len];exact h)]
 ·rw [if_neg hj]
def lvU (f : Od→Od) (v : Lv) : Lv:=(v.1,v.2.map f)
def mixL (f : Od→Od) (i : Nat) (l : List Lv) : List Lv:=(l.take i).map (lvU f)++l.drop i
theorem mixL_all (f : Od→Od) (l : List Lv) : mixL f l.length l=l.map (lvU f):=by unfold mixL;rw [List.take_length,List.drop_length,List.append_nil]
theorem mixL_get (f : Od→Od) {i : Nat} {l : List Lv} (h : i<l.length) : (mixL f i l)[i]?=some l[i]:=by
 unfold mixL
 rw [List.getElem?_append_right (by simp only [List.length_map,List.length_take];omega),List.length_map,List.length_take,Nat.min_eq_left (by omega),Nat.sub_self,List.getElem?_drop,Nat.add_zero,List.getElem?_eq_getElem h]
theorem mixL_len (f : Od→Od) (i : Nat) (l : List Lv) : (mixL f i l).length=l.length:=by unfold mixL;simp only [List.length_append,List.length_map,List.length_take,List.length_drop];omega
theorem mixL_succ (f : Od→Od) {i : Nat} {l : List Lv} (h : i<l.length) : mixL f (i+1) l=(mixL f i l).set i (l[i].1,mixO f l[i].2.length l[i].2):=by
 rw [mixO_all]
 unfold mixL
 rw [List.set_append_right _ _ (by simp only [List.length_map,List.length_take];omega),List.length_map,List.length_take,Nat.min_eq_left (by omega),Nat.sub_self,Da.take_snoc h,List.map_append,List.append_assoc]
 rw [show l.drop i=l[i] :: l.drop (i+1) from List.drop_eq_getElem_cons h]
 rfl
theorem set_same {α : Type} {l : List α} {i : Nat} {x : α} (h : l[i]?=some x) : l.set i x=l:=by
 refine List.ext_getElem? fun j=>?_
 rw [List.getElem?_set]
 by_cases hj : i=j
 ·subst hj
  rw [if_pos rfl,h,if_pos (List.getElem?_eq_some_iff.1 h).1]
 ·rw [if_neg hj]
end Go.Proofs.YthecinmekoaphaaGreat.Bk
