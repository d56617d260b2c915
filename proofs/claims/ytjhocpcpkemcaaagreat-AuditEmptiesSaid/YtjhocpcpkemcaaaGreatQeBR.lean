/- Package book as it landed: traded. -/
import Derived.Test.YtjhocpcpkemcaaaGreatQeZZ
import Derived.Test.YtjhocpcpkemcaaaGreatQeBB
import Derived.Test.YtjhocpcpkemcaaaGreatQeBG
import Derived.WalkMore
import Derived.Test.YtjhocpcpkemcaaaGreatQeBJ
set_option linter.unusedVariables false
set_option maxRecDepth 16000
set_option maxHeartbeats 32000000
namespace Go.Proofs.YtjhocpcpkemcaaaGreat.Bk
open Go.RowKit
open Rw
open Da
open Ro
open Le
theorem upd_none {id n:Int} {l:List Lv} (h:∀ o∈flat l,o.1≠id):upd id n l=l:=by
 unfold upd
 refine (List.map_congr_left fun v hv=>?_).trans (List.map_id _)
 have:v.2.map (updO id n)=v.2:=(List.map_congr_left fun o ho=>by unfold updO;rw [if_neg (h o (List.mem_flatMap.2 ⟨v,hv,ho⟩))];rfl).trans (List.map_id _)
 rw [this];rfl
theorem mapO_none {id n:Int} {os:List Od} (h:∀ o∈os,o.1≠id):os.map (updO id n)=os :=
 (List.map_congr_left fun o ho=>by unfold updO;rw [if_neg (h o ho)];rfl).trans (List.map_id _)
theorem split_at {α:Type} {l:List α} {i:Nat} {x:α} (h:l[i]?=some x):l=l.take i++x :: l.drop (i+1)∧∀ y,l.set i y=l.take i++y :: l.drop (i+1):=by
 obtain ⟨hi,rfl⟩:=List.getElem?_eq_some_iff.1 h
 refine ⟨by rw [← List.drop_eq_getElem_cons hi,List.take_append_drop],fun y=>?_⟩
 rw [List.set_eq_take_append_cons_drop,if_pos hi]
theorem upd_at {L:List Lv} {i k:Nat} {p:Int} {os:List Od} {o:Od} (n:Int) (hn:((flat L).map oid).Nodup) (hi:L[i]?=some (p,os)) (hk:os[k]?=some o):upd o.1 n L=L.set i (p,os.set k (less o n)):=by
 obtain ⟨e1,e2⟩:=split_at hi
 obtain ⟨e3,e4⟩:=split_at hk
 rw [e2,e4]
 obtain ⟨A,hA⟩:∃ A,L.take i=A:=⟨_,rfl⟩
 obtain ⟨C,hC⟩:∃ C,L.drop (i+1)=C:=⟨_,rfl⟩
 obtain ⟨a,ha⟩:∃ A,os.take k=A:=⟨_,rfl⟩
 obtain ⟨c,hc⟩:∃ C,os.drop (k+1)=C:=⟨_,rfl⟩
 rw [hA,hC] at e1 ⊢
 rw [ha,hc] at e3 ⊢
 rw [e1,flat_app,flat_cons,e3] at hn
 simp only [List.map_append,List.map_cons] at hn
 have hX:∀ x∈flat A++(a++c)++flat C,x.1≠o.1:=by
  intro x hx e
  have hp:(List.map oid (flat A)++(List.map oid a++oid o :: List.map oid c++List.map oid (flat C))).Perm (oid o :: (flat A++(a++c)++flat C).map oid):=by
   simp only [List.map_append,List.append_assoc,List.cons_append]
   refine (List.Perm.append_left _ List.perm_middle).trans ?_
   exact List.perm_middle
  rw [hp.nodup_iff,List.nodup_cons] at hn
  exact hn.1 (List.mem_map.2 ⟨x,hx,e⟩)
 rw [e1,e3]
 have h1:upd o.1 n A=A:=upd_none fun x hx=>hX x (by simp [hx])
 have h2:upd o.1 n C=C:=upd_none fun x hx=>hX x (by simp [hx])
 have h3:a.map (updO o.1 n)=a:=mapO_none fun x hx=>hX x (by simp [hx])
 have h4:c.map (updO o.1 n)=c:=mapO_none fun x hx=>hX x (by simp [hx])
 unfold upd at h1 h2 ⊢
 rw [List.map_append,List.map_cons,h1,h2]
 simp only [List.map_append,List.map_cons]
 rw [h3,h4,show updO o.1 n o=less o n from if_pos rfl]
theorem noId_all {id:Int} {L:List Lv} (h:NoId id L L.length):∀ o∈flat L,o.1≠id:=fun o ho e=>by
 obtain ⟨v,hv,hx⟩:=List.mem_flatMap.1 ho
 unfold NoId at h
 rw [List.take_length] at h
 have:=List.any_eq_true.2 ⟨o,hx,show hasId id o=true by simpa [hasId] using e⟩
 rw [h v hv] at this;cases this
theorem any_snoc {id:Int} {os:List Od} {k:Nat} (hk:k<os.length) (h:(os.take k).any (hasId id)=false) (hne:os[k].1≠id):(os.take (k+1)).any (hasId id)=false:=by
 rw [Da.take_snoc hk,List.any_append,h,Bool.false_or]
 simp [hasId,hne]
theorem own5 {B:Bs} {Bo:Nat} {os:List Od} {v:Value} {w:World} (hB:B.le Bo) (h:OwnO B Bo os v w) {k:Nat} (hk:k<os.length):∃ g cap,v=.slice (some ⟨g,0,none⟩) os.length cap∧Bo≤g∧cap≤maxLen∧RowOd g cap os w ∧
  w.cell? ⟨g,k*5,none⟩=some (.int .i64 os[k].1)∧w.cell? ⟨g,k*5+1,none⟩=some (.int .i64 os[k].2.1)∧w.cell? ⟨g,k*5+2,none⟩=some (.int .i64 os[k].2.2.1)∧w.cell? ⟨g,k*5+3,none⟩=some (.int .i64 os[k].2.2.2.1)∧w.cell? ⟨g,k*5+4,none⟩=some (.int .i64 os[k].2.2.2.2):=by
 obtain ⟨g,cap,hgv,hBg,hcap,hr⟩:=rowOd_of h hk
 have ho:=List.getElem?_eq_getElem hk
 exact ⟨g,cap,hgv,hBg,hcap,hr,hr.cell ho (j:=0) rfl,hr.cell ho (j:=1) rfl,hr.cell ho (j:=2) rfl,hr.cell ho (j:=3) rfl,hr.cell ho (j:=4) rfl⟩
theorem FS.lev2 {B:Bs} {Bo n ct:Nat} {at1:Option Addr} {hs0 hs:List Hw} {w:World} {fs:List Fl} {fv:Value} {L:List Lv} {u:World} (h:FS B Bo hs0 hs w fs fv (.slice at1 n ct) L u) {i:Nat} {p:Int} {os:List Od} (hi:L[i]?=some (p,os)) :
  ∃ y b off,hs[i]?=some y∧at1=some ⟨b,off,none⟩∧b<u.heap.size∧u.cell? ⟨b,off+i*2,none⟩=some (.int .i64 p)∧u.cell? ⟨b,off+i*2+1,none⟩=some (hv y)∧OwnO B Bo os (hv y) u:=by
 have hl:=h.mine.len
 have hiL:i<L.length:=(List.getElem?_eq_some_iff.1 hi).1
 have hih:i<hs.length:=by omega
 obtain ⟨a,c,e,ht⟩:=h.is
 simp only [Value.slice.injEq] at e
 obtain ⟨rfl,_,rfl⟩:=e
 rcases ht with ⟨e,_⟩ | ⟨b,off,rfl,hat⟩
 ·rw [e] at hih;cases hih
 ·obtain ⟨h1,h2⟩:=h.mine.own i _ _ hi (List.getElem?_eq_getElem hih)
  exact ⟨hs[i],b,off,List.getElem?_eq_getElem hih,rfl,hat.1,by rw [(atF hat i hih).1,h1],(atF hat i hih).2,h2⟩
theorem traded_any (B:Bs) (Bo:Nat) (l:List Lv) (fs:List Fl) (v fv:Value) (hs0:List Hw) (w:World) (hI:Is eF 106 B hs0 v w) (hM:Mine B Bo l hs0 w) (hB:B.le Bo) (hBo:Bo≤w.heap.size) (hF:FL B fs fv w) (hm:l.length≤1000000) (hfl:(flat l).length≤1000000) (hfm:fs.length≤1000000)
  (hids:∀ j (h:j<fs.length),fs[j].2.2.2.2=false→j+1=fs.length∧((flat (fil l (fs.take j))).map oid).Nodup∧∃ o∈flat (fil l (fs.take j)),o.1=fs[j].1) (hq:∀ f∈fs,0≤f.2.2.2.1∧f.2.2.2.1≤1048576) (hol:∀ o∈flat l,0≤olf o∧olf o≤1048576) :
  Calls Tryz.prog 188 #[v,fv] w (FilP B l fs hs0 w):=by
 obtain ⟨a2,c2,rfl,_⟩:=id hF
 obtain ⟨n,hn⟩:∃ n,n=fs.length:=⟨_,rfl⟩
 have HSt:Hid (FS B Bo hs0 hs0 w fs (.slice a2 fs.length c2) v l w):=lH ⟨hI,hM,hF,Alt.refl _ _,fun b hb=>.inl hb,hBo⟩
 have HIds:=lH hids
 have HQ:=lH hq
 have HOl:=lH hol
 have HB:=lH hB
 rw [← hn] at hfm HSt ⊢
 have HN:=lH hn
 have HM:=lH hm
 have HFl:=lH hfl
 clear hI hM hF hids hq hol hB hn hm hfl hBo
 go_enter Tryz.func188,Tryz.ntmps188
 go_wp2
 go_step3
 go_wp2
 go_step3
 go_wp2
 go_loopw [0,13] (fun t i wr=>∃ (j:Nat) (L:List Lv) (Bo':Nat) (hs:List Hw),j≤n∧i=.int .i64 j∧L=fil l (fs.take j)∧B.le Bo'∧FS B Bo' hs0 hs w fs (.slice a2 n c2) t L wr∧(j<n→∀ o∈flat L,0≤olf o∧olf o≤1048576)∧L.length≤l.length∧(flat L).length≤(flat l).length) (fun _ i _=>n - (intOf i).toNat)
 case atStart=>exact ⟨0,l,Bo,hs0,Nat.zero_le _,rfl,rfl,HB.out,HSt.out,fun _=>HOl.out,Nat.le_refl _,Nat.le_refl _⟩
 case round =>
  obtain ⟨wo,rfl⟩:∃ wo:World,wo=wr:=⟨_,rfl⟩
  obtain ⟨j,L,Bo',hs,hj,rfl,hL,hB',hS,hbd,hl1,hl2⟩:=hrel
  have HS:=lH hS
  have HLe:=lH hL
  have HBd:=lH hbd
  have HB':=lH hB'
  have hm:L.length≤1000000:=by have:=HM.out;omega
  have hfl:(flat L).length≤1000000:=by have:=HFl.out;omega
  have hhl0:hs.length=L.length:=hS.mine.len
  obtain ⟨at1,ct,et⟩:=hS.is.len
  subst et
  rw [hhl0] at HS ⊢
  clear hS hL hbd hB' hhl0
  by_cases hlt:j<n
  ·have hlt2:(j:Int)<n:=by omega
   have hjf:j<fs.length:=by rw [← HN.out];exact hlt
   have hfi:=HS.out.fl
   rcases hfi with ⟨aa,ca,e,hfi⟩
   rw [← HN.out] at e
   simp only [Value.slice.injEq] at e
   obtain ⟨rfl,_,rfl⟩:=e
   rcases hfi with ⟨e,_⟩ | ⟨b2,off2,rfl,hat⟩
   ·rw [e] at hjf;cases hjf
   have hc5:=atFl hat j hjf
   have hbb:=hat.1
   have hsn:=fil_snoc (l:=l) hjf
   have hmem:=HQ.out _ (List.getElem_mem hjf)
   have hid:=HIds.out j hjf
   rw [← HLe.out] at hid
   obtain ⟨⟨f1,f2,f3,f4,f5⟩,hf⟩:∃ f,fs[j]'hjf=f:=⟨_,rfl⟩
   rw [hf] at hc5 hsn hmem hid
   simp only at hc5 hmem hid
   rw [← HLe.out] at hsn
   obtain ⟨s0,s1,s2,s3,s4⟩:=hc5
   obtain ⟨V,hV⟩:∃ V,V=wo.alloc (.cells #[.int .i64 f1,.int .i64 f2,.int .i64 f3,.int .i64 f4,.bool f5] 159):=⟨_,rfl⟩
   have hbV:Below wo.heap.size wo V:=hV ▸ below1 wo _
   have hbx:V.heap[wo.heap.size]?=some (.cells #[.int .i64 f1,.int .i64 f2,.int .i64 f3,.int .i64 f4,.bool f5] 159 (0,0)):=by rw [hV];exact heap_alloc_new wo _
   have HV:=lH hV
   have HSV:=lH (HS.out.stays hbV)
   have HSn:=lH hsn
   have HId:=lH hid
   have HBx:=lH hbx
   have hbd:=HBd.out hlt
   have HBd2:=lH hbd
   have hzV:wo.heap.size<V.heap.size:=by rw [hV];simp
   clear hV hf hat hsn hid hbx hbd
   go_wp2
   rw [← HV.out]
   go_loopw [19] (fun i wr=>∃ i':Nat,i'≤L.length∧i=.int .i64 i'∧Below V.heap.size V wr∧(f5=false→NoId f1 L i')) (fun i _=>L.length - (intOf i).toNat)
   case atStart=>exact ⟨0,Nat.zero_le _,rfl,Below.refl _ _,fun _ v hv=>by simp at hv⟩
   case round =>
    obtain ⟨wm,rfl⟩:∃ wm:World,wm=wr:=⟨_,rfl⟩
    obtain ⟨i',hi',rfl,hbm,hno⟩:=hrel
    have HNo:=lH hno
    have HS1:=lH (HSV.out.stays hbm)
    clear hno
    by_cases hli:i'<L.length
    ·have hli2:(i':Int)<L.length:=by omega
     obtain ⟨⟨p,os⟩,hpo⟩:∃ y,L[i']=y:=⟨_,rfl⟩
     have hget:L[i']?=some (p,os):=by rw [List.getElem?_eq_getElem hli,hpo]
     have hos:os.length≤1000000:=by
      have h1:=flat_take_le L (i'+1)
      have h2:=flat_take_snoc hli
      rw [hpo] at h2
      simp only at h2
      rw [h2,List.length_append] at h1
      omega
     obtain ⟨y,tb,toff,hy,rfl,htb,hp0,htc,hown⟩:=HS1.out.lev2 hget
     obtain ⟨a3,c3,hyv⟩:=(hown.is (by decide) HB'.out).len
     rw [hyv] at htc
     obtain ⟨X,hX⟩:∃ X,X=wm.alloc (.cells #[.int .i64 p,.slice a3 os.length c3] 106):=⟨_,rfl⟩
     have hbX:Below wm.heap.size wm X:=hX ▸ below1 wm _
     have hzX:X.heap.size=wm.heap.size+1:=by rw [hX];simp
     have hxb:X.heap[wm.heap.size]?=some (.cells #[.int .i64 p,.slice a3 os.length c3] 106 (0,0)):=by rw [hX];exact heap_alloc_new wm _
     have HGet:=lH hget
     have HY:=lH hy
     have HYv:=lH hyv
     have HPo:=lH hpo
     have HXb:=lH hxb
     have HX:=lH hX
     have HbX:=lH (nx hbm hbX)
     have hx1:X.cell? ⟨wm.heap.size,1,none⟩=some (.slice a3 os.length c3):=by simp [World.cell?,hxb]
     rw [hX] at hx1
     clear hget hy hyv hpo hown hX hxb
     go_wp2
     rw [← HX.out]
     go_loopw [26] (fun i wr=>∃ k':Nat,k'≤os.length∧i=.int .i64 k'∧Below X.heap.size X wr∧(f5=false→(os.take k').any (hasId f1)=false)) (fun i _=>os.length - (intOf i).toNat)
     case atStart=>exact ⟨0,Nat.zero_le _,rfl,Below.refl _ _,fun _=>by simp⟩
     case round =>
      obtain ⟨wi,rfl⟩:∃ wi:World,wi=wr:=⟨_,rfl⟩
      obtain ⟨k',hk',rfl,hbi,han⟩:=hrel
      have HAn:=lH han
      have hbVi:=nx HbX.out hbi
      have HS2:=lH (HSV.out.stays hbVi)
      clear han hx1
      by_cases hlk:k'<os.length
      ·have hlk2:(k':Int)<os.length:=by omega
       obtain ⟨y',b,off,hy',e,htb',_,_,hown⟩:=HS2.out.lev2 HGet.out
       rw [HY.out] at hy'
       obtain rfl:=Option.some.inj hy'
       simp only [Option.some.injEq,Addr.mk.injEq,and_true] at e
       obtain ⟨rfl,rfl⟩:=e
       obtain ⟨g,cap,hgv,hBg,hcap,hr,z0,z1,z2,z3,z4⟩:=own5 HB'.out hown hlk
       have hgo:=List.getElem?_eq_getElem hlk
       obtain ⟨⟨o1,o2,o3,o4,o5⟩,ho⟩:∃ o,os[k']'hlk=o:=⟨_,rfl⟩
       rw [ho] at z0 z1 z2 z3 z4 hgo
       simp only at z0 z1 z2 z3 z4
       have hgv2:=hgv
       rw [HYv.out] at hgv2
       simp only [Value.slice.injEq] at hgv2
       obtain ⟨rfl,_,rfl⟩:=hgv2
       have hgl:g<wi.heap.size:=hr.lt
       have hbxi:=(hbVi.block _ hzV).trans HBx.out
       have hxbi:=(hbi.block _ (by omega)).trans HXb.out
       have hzi:=hbi.size
       have f0:wi.cell? ⟨wo.heap.size,0,none⟩=some (.int .i64 f1):=by simp [World.cell?,hbxi]
       have f3':wi.cell? ⟨wo.heap.size,3,none⟩=some (.int .i64 f4):=by simp [World.cell?,hbxi]
       have f4':wi.cell? ⟨wo.heap.size,4,none⟩=some (.bool f5):=by simp [World.cell?,hbxi]
       have x1:wi.cell? ⟨wm.heap.size,1,none⟩=some (.slice (some ⟨g,0,none⟩) os.length c3):=by simp [World.cell?,hxbi]
       have fz:wi.frozen? ⟨g,k'*5+4,none⟩=false:=hr.frozen _
       have hwoi:wo.heap.size<wi.heap.size:=by have:=hbVi.size;omega
       have hwmi:wm.heap.size<wi.heap.size:=by omega
       have HR:=lH hr
       have HGv:=lH hgv
       have HGo:=lH hgo
       have HO:=lH ho
       clear hr hgv hgo ho hown hbxi hxbi
       by_cases he:o1=f1
       ·have hd:(o1==f1)=true:=by simpa using he
        cases f5
        ·obtain ⟨hjn,hnd,_⟩:=HId.out rfl
         have HNd:=lH hnd
         have hol:0≤o5∧o5≤1048576:=by
          have:=List.getElem_mem hlk
          rw [HO.out] at this
          exact HBd2.out _ (List.mem_flatMap.2 ⟨_,List.getElem_mem hli,by rw [HPo.out];exact this⟩)
         clear hnd
         go_wp2
         go_region
         obtain ⟨n1,n2⟩:=HS2.out.set HB'.out HGet.out HY.out (HYv.out.trans rfl) hBg hcap HR.out HGo.out f4
         have hE:fil l (fs.take (j+1))=L.set i' (p,os.set k' (less (o1,o2,o3,o4,o5) f4)):=by
          rw [HSn.out]
          show upd f1 f4 L=_
          rw [← upd_at f4 HNd.out HGet.out HGo.out]
          rw [show o1=f1 by simpa using hd]
         rw [← hE] at n1
         have hl3:(fil l (fs.take (j+1))).length=L.length:=by rw [hE,List.length_set]
         have hl4:(flat (fil l (fs.take (j+1)))).length=(flat L).length:=by
          rw [HSn.out]
          show (flat (upd f1 f4 L)).length=_
          rw [flat_upd,List.length_map]
         have hjn:j+1=n:=by rw [hjn,HN.out]
         have hn1:=fun c=>(n1.stays (below1 _ c)).stays (Below.refl _ _).drew
         have HRel:=lH (And.intro hn1 (And.intro hl3 hl4))
         clear n1 n2 hn1 hE hl3 hl4
         go_wp2
         go_roundw
         case rel=>exact ⟨j+1,fil l (fs.take (j+1)),Bo',hs,by omega,by go_num,rfl,HB'.out,HRel.out.1 _,fun h=>by omega,by rw [HRel.out.2.1];exact hl1,by rw [HRel.out.2.2];exact hl2⟩
         case measure=>simp [intOf];omega
        ·go_wp2
         go_roundw
         case rel=>exact ⟨k'+1,by omega,by go_num,nx hbi (below1 _ _),fun h=>by cases h⟩
         case measure=>simp [intOf];omega
       ·have hd:(o1==f1)=false:=by simpa using he
        have HAn2:=lH (show f5=false→(os.take (k'+1)).any (hasId f1)=false from fun h=>any_snoc hlk (HAn.out h) (by rw [HO.out];exact he))
        clear he
        go_wp2
        go_roundw
        case rel=>exact ⟨k'+1,by omega,by go_num,nx hbi (below1 _ _),HAn2.out⟩
        case measure=>simp [intOf];omega
      ·obtain rfl:k'=os.length:=by omega
       have HNo2:=lH (show f5=false→NoId f1 L (i'+1) from fun h=>(HNo.out h).snoc hli (by rw [HPo.out];have:=HAn.out h;rw [List.take_length] at this;exact this))
       go_wp2
       go_roundw
       case rel=>exact ⟨i'+1,by omega,by go_num,hbVi,HNo2.out⟩
       case measure=>simp [intOf];omega
    ·obtain rfl:i'=L.length:=by omega
     cases f5
     ·exfalso
      obtain ⟨_,_,o,ho,e⟩:=HId.out rfl
      exact noId_all (HNo.out rfl) o ho e
     have hsn2:fil l (fs.take (j+1))=rem L f1:=by rw [HSn.out];rfl
     have HSn2:=lH hsn2
     have hBV:B.le wm.heap.size:=HB'.out.mono HS1.out.le
     have hLL:=(mine_lvs HB'.out HS1.out.mine).ll HS1.out.is
     have HBV:=lH hBV
     have HLL:=lH hLL
     have hr1:(rem L f1).length≤L.length:=remL_len f1 L false
     have hr2:=(rem_flat_sub L f1).length_le
     have hbxm:=(hbm.block _ hzV).trans HBx.out
     have f0:wm.cell? ⟨wo.heap.size,0,none⟩=some (.int .i64 f1):=by simp [World.cell?,hbxm]
     have hwom:wo.heap.size<wm.heap.size:=by have:=hbm.size;omega
     clear hsn2 hBV hLL hbxm
     go_wp2_with fail
     refine (remove_own B L _ f1 wm HLL.out HBV.out hm hfl).mono ?_
     rintro e V2 ⟨v2,rfl,hbR,hs2,hi2,hm2⟩
     have HRel:=lH (show rem L f1=fil l (fs.take (j+1))∧FS B wm.heap.size hs0 hs2 w fs (.slice (some ⟨b2,off2,none⟩) n c2) v2 (rem L f1) V2 from ⟨HSn2.out.symm,HS1.out.anew hbR hi2 hm2⟩)
     clear hi2 hm2
     go_wp2
     go_roundw
     case rel=>exact ⟨j+1,rem L f1,wm.heap.size,hs2,by omega,by go_num,HRel.out.1,HBV.out,HRel.out.2,fun _ o ho=>HBd2.out o ((rem_flat_sub L f1).subset ho),by omega,by omega⟩
     case measure=>simp [intOf];omega
  ·obtain rfl:j=n:=by omega
   have e1:fil l fs=L:=by rw [HLe.out,HN.out,List.take_length]
   have HE:=lH e1
   clear e1
   go_wp2
   try rw [Exit.noGoto_ret]
   go_ret
   exact ⟨_,rfl,by rw [HE.out];exact (mine_lvs HB'.out HS.out.mine).ll HS.out.is,HS.out.alt⟩
end Go.Proofs.YtjhocpcpkemcaaaGreat.Bk
namespace Go.Proofs.YtjhocpcpkemcaaaGreat.Bk
open Le
abbrev Op5:=Int × Int × Int × Int × Int
noncomputable def step (b:Bk) (o:Op5):Bk:=if o.1=2 then (cancel b o.2.1 o.2.2.2.1).1 else (place b o.2.1 o.2.2.1 o.2.2.2.1 o.2.2.2.2 (o.1 != 1)).1
theorem len_flat {s:Int}:∀ {l:List Lv},(∀ v∈l,okLv s v)→l.length≤(flat l).length
 | [],_=>Nat.zero_le _
 | v :: r,h=>by
  have h1:=(h v List.mem_cons_self).1
  have h2:=len_flat (l:=r) fun x hx=>h x (List.mem_cons_of_mem _ hx)
  have h3:=List.length_pos_iff.2 h1
  rw [flat_cons,List.length_append,List.length_cons];omega
theorem right_small {b:Bk} (h:RightB b):b.1.length≤40∧(flat b.1).length≤40∧b.2.1.length≤40∧(flat b.2.1).length≤40:=by
 have h1:=len_flat h.buys.2.1
 have h2:=len_flat h.sells.2.1
 have h3:=h.cnt
 unfold cntB at h3
 omega
end Go.Proofs.YtjhocpcpkemcaaaGreat.Bk
namespace Go.Proofs.YtjhocpcpkemcaaaGreat.Bk
open Go.RowKit
open Rw
open Da
open Le
theorem fil_take {sd ow s p:Int}:∀ (os:List Od) {l:List Lv} {q:Int} {fs:List Fl} {lf:Int},flat l=os→RightL sd l→0≤q→tr ow s p os q=some (fs,lf)→∀ j,j<fs.length→flat (fil l (fs.take j))=os.drop j
 | [],l,q,fs,lf,hf,hr,hq,h,j,hj=>by
  simp only [tr,Option.some.injEq,Prod.mk.injEq] at h
  obtain ⟨rfl,rfl⟩:=h
  cases hj
 | o :: r,l,q,fs,lf,hf,hr,hq,h,0,hj=>hf
 | o :: r,l,q,fs,lf,hf,hr,hq,h,j+1,hj=>by
  have ho1:1≤olf o:=by
   obtain ⟨v,hv,hx⟩:=List.mem_flatMap.1 (show o∈flat l by rw [hf];exact List.mem_cons_self)
   have:=((hr.2.1 v hv).2 o hx).1
   rw [omay_iff] at this;unfold olf;omega
  rcases tr_step h hq ho1 with ⟨h1,rfl,rfl,h2⟩ | ⟨h1,h2,h3,h4,rfl,rfl,h5⟩ | ⟨h1,h2,h3,h4,gs,rfl,h5,h6⟩
  ·cases hj
  ·simp at hj
  ·have hd:decide (olf o=olf o)=true:=decide_eq_true rfl
   have e1:fil l ((mkF o (olf o) :: gs).take (j+1))=fil (rem l o.1) (gs.take j):=by
    rw [List.take_succ_cons]
    show fil (fil1 l (mkF o (olf o))) (gs.take j)=_
    congr 1
    unfold fil1 mkF
    rw [if_pos hd]
   rw [e1,List.drop_succ_cons]
   exact fil_take r (flat_rem_head hr hf) (right_remL o.1 hr) (by omega) h5 j (by simpa using hj)
theorem tr_ids {sd ow s p q:Int} {l:List Lv} {fs:List Fl} {lf:Int} (hr:RightL sd l) (hq:0≤q) (h:tr ow s p (flat l) q=some (fs,lf)) (hT:TrS ow s p (flat l) q fs lf) :
  ∀ j (h:j<fs.length),fs[j].2.2.2.2=false→j+1=fs.length∧((flat (fil l (fs.take j))).map oid).Nodup∧∃ o∈flat (fil l (fs.take j)),o.1=fs[j].1:=fun j hj hd=>by
 obtain ⟨h',n,e,n1,n2,_,_,n3⟩:=hT.at' j hj
 rw [fil_take _ rfl hr hq h j hj]
 refine ⟨n3 ?_,?_,(flat l)[j],?_,?_⟩
 ·rw [e] at hd
  have:n≠olf (flat l)[j]:=by simpa [mkF] using hd
  omega
 ·exact List.Sublist.nodup ((List.drop_sublist j _).map oid) hr.2.2.2
 ·rw [List.drop_eq_getElem_cons h'];exact List.mem_cons_self
 ·rw [e];rfl
structure FinP (A:Bs) (b:Bk) (x y:Value) (n:Int) (fs:List Fl) (fv:Value) (s k:Nat) (w W:World):Prop where
 r0:row W k=#[x,y,.int .i64 n]
 p1:plain 3 W (s+1)=true
 r1:row (W.setRow (s+1) #[x,y,.int .i64 n]) (s+1)=#[x,y,.int .i64 n]
 bel:Below s w (W.setRow (s+1) #[x,y,.int .i64 n])
 bl:BL A b (.agg #[x,y,.int .i64 n]) (W.setRow (s+1) #[x,y,.int .i64 n])
 fl:FL A fs fv (W.setRow (s+1) #[x,y,.int .i64 n])
theorem finP {A:Bs} {b:Bk} {x y:Value} {n:Int} {fs:List Fl} {fv:Value} {s k:Nat} {w W:World} {c1:Array Value} (hn:b.2.2=n) (g:W.heap[k]?=some (.cells #[x,y,.int .i64 n] 57 (0,0))) (g1:W.heap[s+1]?=some (.cells c1 57 (0,0))) (hc:c1.size=3) (lo:A.lo≤s) (l1:LL A b.1 x W) (l2:LL A b.2.1 y W) (fl:FL A fs fv W) (bel:Below s w W):FinP A b x y n fs fv s k w W:=by
 subst hn
 refine ⟨by unfold Rw.row;rw [g],?_,?_,below_setRow bel (by omega) _,⟨x,y,rfl,Is.keep eL 106 l1 (keeps_setRow _ g1 (by decide) (by omega)),Is.keep eL 106 l2 (keeps_setRow _ g1 (by decide) (by omega))⟩,Is.keep eFl 159 fl (keeps_setRow _ g1 (by decide) (by omega))⟩
 ·unfold Rw.plain;rw [g1];simp [hc]
 ·unfold Rw.row;rw [setRow_heap W (s+1) _ _ _ _ g1]
structure AftK (A:Bs) (l1 l2:List Lv) (x y:Value) (n:Int) (fs:List Fl) (fv:Value) (s k:Nat) (w W' F:World):Prop where
 gk:F.heap[k]?=some (.cells #[x,y,.int .i64 n] 57 (0,0))
 low:∀ q,q≤s+2→F.heap[q]?=W'.heap[q]?
 l1:LL A l1 x F
 l2:LL A l2 y F
 fl:FL A fs fv F
 bel:Below s w F
 cell:∃ u v t,W'.heap[k]?=some (.cells #[u,v,t] 57 (0,0))
theorem aftK2 {A:Bs} {Bo:Nat} {b:Bk} {x y v:Value} {hs1 hs2:List Hw} {s k:Nat} {n:Int} {w W W':World} {fs:List Fl} {fv:Value} {l:List Lv} (hm:MyB A Bo b x y hs1 hs2 W) (gk:W.heap[k]?=some (.cells #[x,y,.int .i64 n] 57 (0,0))) (hk:∀ q,Blk hs2 q→q<k) (hA:A.lo≤s) (hs:s+2<Bo) (hBk:Bo≤k) (hf:FL A fs fv W) (ha:Alt (Blk hs2) W W') (hl:LL A l v W') (hb:Below s w W):AftK A b.1 l x v n fs fv s k w W' (W'.setCell ⟨k,1,none⟩ v)∧(∀ q,q≤s+2→W'.heap[q]?=W.heap[q]?):=by
 have hz:=(Array.getElem?_eq_some_iff.1 gk).1
 have hne:∀ q,q<Bo→W'.heap[q]?=W.heap[q]?:=fun q hq=>ha.block q (by omega) (fun hx=>by have:=(blk_ge hm.m2 q hx).1;omega)
 have h0:W'.heap[k]?=some (.cells #[x,y,.int .i64 n] 57 (0,0)):=(ha.block k hz (fun hx=>by have:=hk k hx;omega)).trans gk
 have hl1:LL A b.1 x W':=Is.up eL 106 (Bs.sub_but _ _) (Is.keep eL 106 hm.o1 (Keeps.of_alt ha (fun q hq _=>⟨.inr hq,by have:=(blk_ge hm.m2 q hq).1;show A.lo≤q;omega⟩)))
 have hbl:Below s w W':=Alt.below hb ha (by omega) (fun q hq=>by have:=(blk_ge hm.m2 q hq).1;omega)
 have hfl:FL A fs fv W':=Is.keep eFl 159 hf (keeps_blk hm.m2 (by decide) ha A (by omega))
 refine ⟨⟨set3 h0,fun q hq=>Below.heap_setCell W' ⟨k,1,none⟩ v q (by show q≠k;omega),Is.keep eL 106 hl1 (keeps_setCell 1 v h0 (by decide) (by omega)),Is.keep eL 106 hl (keeps_setCell 1 v h0 (by decide) (by omega)),Is.keep eFl 159 hfl (keeps_setCell 1 v h0 (by decide) (by omega)),hbl.trans (low_setCell 1 v (by omega)),⟨_,_,_,h0⟩⟩,fun q hq=>hne q (by omega)⟩
theorem aftK1 {A:Bs} {Bo:Nat} {b:Bk} {x y v:Value} {hs1 hs2:List Hw} {s k:Nat} {n:Int} {w W W':World} {fs:List Fl} {fv:Value} {l:List Lv} (hm:MyB A Bo b x y hs1 hs2 W) (gk:W.heap[k]?=some (.cells #[x,y,.int .i64 n] 57 (0,0))) (hk:∀ q,Blk hs1 q→q<k) (hA:A.lo≤s) (hs:s+2<Bo) (hBk:Bo≤k) (hf:FL A fs fv W) (ha:Alt (Blk hs1) W W') (hl:LL A l v W') (hb:Below s w W):AftK A l b.2.1 v y n fs fv s k w W' (W'.setCell ⟨k,0,none⟩ v)∧(∀ q,q≤s+2→W'.heap[q]?=W.heap[q]?):=by
 have hz:=(Array.getElem?_eq_some_iff.1 gk).1
 have hne:∀ q,q<Bo→W'.heap[q]?=W.heap[q]?:=fun q hq=>ha.block q (by omega) (fun hx=>by have:=(blk_ge hm.m1 q hx).1;omega)
 have h0:W'.heap[k]?=some (.cells #[x,y,.int .i64 n] 57 (0,0)):=(ha.block k hz (fun hx=>by have:=hk k hx;omega)).trans gk
 have hl1:LL A b.2.1 y W':=Is.up eL 106 (Bs.sub_but _ _) (Is.keep eL 106 hm.o2 (Keeps.of_alt ha (fun q hq _=>⟨.inr hq,by have:=(blk_ge hm.m1 q hq).1;show A.lo≤q;omega⟩)))
 have hbl:Below s w W':=Alt.below hb ha (by omega) (fun q hq=>by have:=(blk_ge hm.m1 q hq).1;omega)
 have hfl:FL A fs fv W':=Is.keep eFl 159 hf (keeps_blk hm.m1 (by decide) ha A (by omega))
 refine ⟨⟨set3 h0,fun q hq=>Below.heap_setCell W' ⟨k,0,none⟩ v q (by show q≠k;omega),Is.keep eL 106 hl (keeps_setCell 0 v h0 (by decide) (by omega)),Is.keep eL 106 hl1 (keeps_setCell 0 v h0 (by decide) (by omega)),Is.keep eFl 159 hfl (keeps_setCell 0 v h0 (by decide) (by omega)),hbl.trans (low_setCell 0 v (by omega)),⟨_,_,_,h0⟩⟩,fun q hq=>hne q (by omega)⟩
theorem set5 {w:World} {b o:Nat} {x1 x2 x3 x4 x5 v:Value} {t:TypeId} (h:w.heap[b]?=some (.cells #[x1,x2,x3,x4,x5] t (0,0))):(w.setCell ⟨b,o,none⟩ v).heap[b]?=some (.cells (#[x1,x2,x3,x4,x5].setIfInBounds o v) t (0,0)):=by
 simp [World.setCell,Array.getElem?_modify,h]
theorem put_isB {s:Int} {l:List Lv} {o:Od} (hr:RightL s l) (hm:omay o s=true) (hn:fnd (flat l) o.1=none):putE l o=0∧put l o=putL s o l:=by
 obtain rfl:o.2.2.1=s:=(omay_iff.1 hm).2.2.2.2.1
 have:putE l o=0:=by unfold putE;rw [rightL_iff.2 hr,hm,hn];rfl
 exact ⟨this,by unfold put;rw [if_pos this]⟩
end Go.Proofs.YtjhocpcpkemcaaaGreat.Bk
