/- The document's own: filled. -/
import Derived.Test.YthecinmekoaphaaGreatQbZZ
import Derived.Test.YthecinmekoaphaaGreatQbAO
import Derived.RegionTactic
import Derived.ChangeAlike
import Derived.BigRegion
import Derived.Test.YthecinmekoaphaaGreatQbAH
set_option linter.unusedVariables false
set_option maxRecDepth 16000
set_option maxHeartbeats 32000000
namespace Go.Proofs.YthecinmekoaphaaGreat.Bk
open Go.RowKit
open Rw
open Da
open Ro
open Le
structure FS (B : Bs) (Bo : Nat) (hs0 hs : List Hw) (w : World) (fs : List Fl) (fv t : Value) (L : List Lv) (u : World) : Prop where
 is : Is eF 98 B hs t u
 mine : Mine B Bo L hs u
 fl : FL B fs fv u
 alt : Alt (Blk hs0) w u
 new : ∀ b,Blk hs b→Blk hs0 b∨w.heap.size≤b
 le : Bo≤u.heap.size
theorem FS.stays {B : Bs} {Bo : Nat} {hs0 hs : List Hw} {w : World} {fs : List Fl} {fv t : Value} {L : List Lv} {u u' : World} (h : FS B Bo hs0 hs w fs fv t L u) (hb : Below u.heap.size u u') : FS B Bo hs0 hs w fs fv t L u' :=
 ⟨Is.stays eF 98 h.is hb,h.mine.stays hb,Is.stays eFl 91 h.fl hb,h.alt.trans (Alt.of_below hb),h.new,Nat.le_trans h.le hb.size⟩
theorem FS.set {B : Bs} {Bo g cap : Nat} {hs0 hs : List Hw} {w : World} {fs : List Fl} {fv t : Value} {L : List Lv} {u : World} (hB : B.le Bo) (h : FS B Bo hs0 hs w fs fv t L u) {i k : Nat} {p : Int} {os : List Od} {y : Hw} {o : Od} (hx : L[i]?=some (p,os)) (hy : hs[i]?=some y) (hgv : hv y=.slice (some ⟨g,0,none⟩) os.length cap) (hBg : Bo≤g) (hcap : cap≤maxLen) (hr : RowOd g cap os u) (hk : os[k]?=some o) (n : Int) :
  FS B Bo hs0 hs w fs fv t (L.set i (p,os.set k (less o n))) (u.setCell ⟨g,k*5+4,none⟩ (.int .i64 (olf o - n)))∧∀ q,q≠g→(u.setCell ⟨g,k*5+4,none⟩ (.int .i64 (olf o - n))).heap[q]?=u.heap[q]?:=by
 obtain ⟨m1,m2⟩:=mine_set hB h.mine hx hy hgv hBg hcap hr hk n
 have hgr:=setCell_grown u g (k*5+4) (.int .i64 (olf o - n))
 have hbk : Blk hs g:=⟨i,y,hy,by rw [hgv];rfl⟩
 refine ⟨⟨Is.keep eF 98 h.is m2,m1,Is.keep eFl 91 h.fl (hr.keeps (by have:=hB.1;omega) (by decide) hgr),?_,h.new,by rw [show (u.setCell ⟨g,k*5+4,none⟩ (.int .i64 (olf o - n))).heap.size=u.heap.size by simp];exact h.le⟩,fun q hq=>Below.heap_setCell u ⟨g,k*5+4,none⟩ _ q hq⟩
 refine ⟨h.alt.os,h.alt.tape,h.alt.output,by have:=h.alt.size;simp;omega,fun b hb hx=>?_⟩
 have hne : b≠g:=fun e=>by
  subst e
  rcases h.new b hbk with h1 | h1
  ·exact hx h1
  ·omega
 rw [Below.heap_setCell u ⟨g,k*5+4,none⟩ _ b hne]
 exact h.alt.block b hb hx
theorem atF {B : Bs} {hs : List Hw} {b off : Nat} {w : World} (h : Lies eF 98 B hs b off w) (i : Nat) (hi : i<hs.length) :
  w.cell? ⟨b,off+i*2,none⟩=some (.int .i64 hs[i].1)∧w.cell? ⟨b,off+i*2+1,none⟩=some (hv hs[i]):=by
 obtain ⟨cs,rfl,hu⟩:=h.at i hi
 exact ⟨hu 0 _ rfl,hu 1 _ rfl⟩
theorem FS.lev {B : Bs} {Bo n ct : Nat} {at1 : Option Addr} {hs0 hs : List Hw} {w : World} {fs : List Fl} {fv : Value} {L : List Lv} {u : World} (h : FS B Bo hs0 hs w fs fv (.slice at1 n ct) L u) {i : Nat} {p : Int} {os : List Od} (hi : L[i]?=some (p,os)) :
  ∃ y b off,hs[i]?=some y∧at1=some ⟨b,off,none⟩∧b<u.heap.size∧u.cell? ⟨b,off+i*2+1,none⟩=some (hv y)∧OwnO B Bo os (hv y) u:=by
 have hl:=h.mine.len
 have hiL : i<L.length:=(List.getElem?_eq_some_iff.1 hi).1
 have hih : i<hs.length:=by omega
 obtain ⟨a,c,e,ht⟩:=h.is
 simp only [Value.slice.injEq] at e
 obtain ⟨rfl,_,rfl⟩:=e
 rcases ht with ⟨e,_⟩ | ⟨b,off,rfl,hat⟩
 ·rw [e] at hih;cases hih
 ·exact ⟨hs[i],b,off,List.getElem?_eq_getElem hih,rfl,hat.1,(atF hat i hih).2,(h.mine.own i _ _ hi (List.getElem?_eq_getElem hih)).2⟩
theorem FS.anew {B : Bs} {Bo : Nat} {hs0 hs hs2 : List Hw} {w V V2 : World} {fs : List Fl} {fv t v2 : Value} {L L2 : List Lv} (h : FS B Bo hs0 hs w fs fv t L V) (hb : Below V.heap.size V V2) (hi : Is eF 98 B hs2 v2 V2) (hm : Mine B V.heap.size L2 hs2 V2) : FS B V.heap.size hs0 hs2 w fs fv v2 L2 V2 :=
 ⟨hi,hm,Is.stays eFl 91 h.fl hb,h.alt.trans (Alt.of_below hb),fun b hx=>by
  obtain ⟨i,y,hy,hg⟩:=hx
  have hl:=hm.len
  have hil : i<L2.length:=by have:=(List.getElem?_eq_some_iff.1 hy).1;omega
  have:=(Own.block (hm.own i _ y (List.getElem?_eq_getElem hil) hy).2 _ hg).1
  exact .inr (Nat.le_trans h.alt.size this),hb.size⟩
theorem rem_flat_sub (l : List Lv) (id : Int) : (flat (rem l id)).Sublist (flat l):=by
 unfold rem
 rw [flat_rem]
 exact remO_sub id _ _
def FilP (B : Bs) (l : List Lv) (fs : List Fl) (hs0 : List Hw) (w : World) (e : Ending) (w' : World) : Prop:=∃ v,e=.returned v∧LL B (fil l fs) v w'∧Alt (Blk hs0) w w'
theorem upd_map (id n : Int) (l : List Lv) : l.map (lvU (updO id n))=upd id n l:=rfl
theorem fil_snoc {l : List Lv} {fs : List Fl} {j : Nat} (h : j<fs.length) : fil l (fs.take (j+1))=fil1 (fil l (fs.take j)) fs[j]:=by
 unfold fil
 rw [Da.take_snoc h,List.foldl_append];rfl
theorem rFilled_any (B : Bs) (Bo : Nat) (l : List Lv) (fs : List Fl) (v fv : Value) (hs0 : List Hw) (w : World) (hI : Is eF 98 B hs0 v w) (hM : Mine B Bo l hs0 w) (hB : B.le Bo) (hBo : Bo≤w.heap.size) (hF : FL B fs fv w) (hm : l.length≤1000000) (hfl : (flat l).length≤1000000) (hfm : fs.length≤1000000)
  (hlast : ∀ i (h : i<fs.length),fs[i].2.2.2.2=false→i+1=fs.length) (hq : ∀ f∈fs,0≤f.2.2.2.1∧f.2.2.2.1≤1048576) (hol : ∀ o∈flat l,0≤olf o∧olf o≤1048576) :
  Calls Tryz.prog 97 #[v,fv] w (FilP B l fs hs0 w):=by
 obtain ⟨a2,c2,rfl,_⟩:=id hF
 obtain ⟨n,hn⟩ : ∃ n,n=fs.length:=⟨_,rfl⟩
 have HSt : Hid (FS B Bo hs0 hs0 w fs (.slice a2 fs.length c2) v l w):=lH ⟨hI,hM,hF,Alt.refl _ _,fun b hb=>.inl hb,hBo⟩
 have HLast:=lH hlast
 have HQ:=lH hq
 have HOl:=lH hol
 have HB:=lH hB
 rw [← hn] at hfm HSt ⊢
 have HN:=lH hn
 have HM:=lH hm
 have HFl:=lH hfl
 clear hI hM hF hlast hq hol hB hn hm hfl hBo
 go_enter Tryz.func97,Tryz.ntmps97
 go_wp2
 go_loopw [0,11] (fun t i wr=>∃ (j : Nat) (L : List Lv) (Bo' : Nat) (hs : List Hw),j≤n∧i=.int .i64 j∧L=fil l (fs.take j)∧B.le Bo'∧FS B Bo' hs0 hs w fs (.slice a2 n c2) t L wr∧(j<n→∀ o∈flat L,0≤olf o∧olf o≤1048576)∧L.length≤l.length∧(flat L).length≤(flat l).length) (fun _ i _=>n - (intOf i).toNat)
 case atStart=>exact ⟨0,l,Bo,hs0,Nat.zero_le _,rfl,rfl,HB.out,HSt.out,fun _=>HOl.out,Nat.le_refl _,Nat.le_refl _⟩
 case round =>
  obtain ⟨wo,rfl⟩ : ∃ wo : World,wo=wr:=⟨_,rfl⟩
  obtain ⟨j,L,Bo',hs,hj,rfl,hL,hB',hS,hbd,hl1,hl2⟩:=hrel
  have HS:=lH hS
  have HLe:=lH hL
  have HBd:=lH hbd
  have HB':=lH hB'
  have hm : L.length≤1000000:=by have:=HM.out;omega
  have hfl : (flat L).length≤1000000:=by have:=HFl.out;omega
  clear hS hL hbd hB'
  by_cases hlt : j<n
  ·have hlt2 : (j : Int)<n:=by omega
   have hjf : j<fs.length:=by rw [← HN.out];exact hlt
   have hfi:=HS.out.fl
   rcases hfi with ⟨aa,ca,e,hfi⟩
   rw [← HN.out] at e
   simp only [Value.slice.injEq] at e
   obtain ⟨rfl,_,rfl⟩:=e
   rcases hfi with ⟨e,_⟩ | ⟨b2,off2,rfl,hat⟩
   ·rw [e] at hjf;cases hjf
   have hc5:=atFl hat j hjf
   have hbb:=hat.1
   have hsn:=fil_snoc (l:=l) hjf
   have hmem:=HQ.out _ (List.getElem_mem hjf)
   have hla:=HLast.out j hjf
   obtain ⟨⟨f1,f2,f3,f4,f5⟩,hf⟩ : ∃ f,fs[j]'hjf=f:=⟨_,rfl⟩
   rw [hf] at hc5 hsn hmem hla
   simp only at hc5 hmem hla
   rw [← HLe.out] at hsn
   obtain ⟨s0,s1,s2,s3,s4⟩:=hc5
   obtain ⟨V,hV⟩ : ∃ V,V=wo.alloc (.cells #[.int .i64 f1,.int .i64 f2,.int .i64 f3,.int .i64 f4,.bool f5] 91):=⟨_,rfl⟩
   have hbV : Below wo.heap.size wo V:=hV ▸ below1 wo _
   have hbx : V.heap[wo.heap.size]?=some (.cells #[.int .i64 f1,.int .i64 f2,.int .i64 f3,.int .i64 f4,.bool f5] 91 (0,0)):=by rw [hV];exact heap_alloc_new wo _
   have HV:=lH hV
   have HSV:=lH (HS.out.stays hbV)
   have HSn:=lH hsn
   clear hV hf hat hsn
   cases f5
   ·have hjn : j+1=n:=by rw [hla rfl,HN.out]
    have hsn2 : fil l (fs.take (j+1))=upd f1 f4 L:=by rw [HSn.out];rfl
    have HSn2:=lH hsn2
    clear hsn2 hla
    obtain ⟨at1,ct,et⟩:=HSV.out.is.len
    subst et
    have hhl : hs.length=L.length:=HSV.out.mine.len
    have HHl:=lH hhl
    rw [hhl]
    have HBx:=lH hbx
    have hbd:=HBd.out hlt
    have HBd2:=lH hbd
    rw [hhl] at HSV
    clear hhl hbx hbd
    go_wp2
    rw [← HV.out]
    go_loopw [27] (fun i wr=>∃ i' : Nat,i'≤L.length∧i=.int .i64 i'∧FS B Bo' hs0 hs w fs (.slice (some ⟨b2,off2,none⟩) n c2) (.slice at1 L.length ct) (mixL (updO f1 f4) i' L) wr∧wr.heap[wo.heap.size]?=some (.cells #[.int .i64 f1,.int .i64 f2,.int .i64 f3,.int .i64 f4,.bool false] 91 (0,0))) (fun i _=>L.length - (intOf i).toNat)
    case atStart=>exact ⟨0,Nat.zero_le _,rfl,HSV.out,HBx.out⟩
    case round =>
     obtain ⟨wm,rfl⟩ : ∃ wm : World,wm=wr:=⟨_,rfl⟩
     obtain ⟨i',hi',rfl,hS1,hbx1⟩:=hrel
     have HS1:=lH hS1
     have HBx1:=lH hbx1
     clear hS1 hbx1
     by_cases hli : i'<L.length
     ·have hli2 : (i' : Int)<L.length:=by omega
      obtain ⟨⟨p,os⟩,hpo⟩ : ∃ y,L[i']=y:=⟨_,rfl⟩
      have hget:=mixL_get (updO f1 f4) hli
      rw [hpo] at hget
      have hos : os.length≤1000000:=by
       have h1:=flat_take_le L (i'+1)
       have h2:=flat_take_snoc hli
       rw [hpo] at h2
       simp only at h2
       rw [h2,List.length_append] at h1
       omega
      obtain ⟨y,tb,toff,hy,rfl,htb,htc,hown⟩:=HS1.out.lev hget
      obtain ⟨a3,c3,hyv⟩:=(hown.is (by decide) HB'.out).len
      rw [hyv] at htc
      have HGet:=lH hget
      have HY:=lH hy
      have HYv:=lH hyv
      have HPo:=lH hpo
      clear hget hy hyv hpo hown
      go_wp2
      go_loopw [36] (fun i wr=>∃ k' : Nat,k'≤os.length∧i=.int .i64 k'∧FS B Bo' hs0 hs w fs (.slice (some ⟨b2,off2,none⟩) n c2) (.slice (some ⟨tb,toff,none⟩) L.length ct) ((mixL (updO f1 f4) i' L).set i' (p,mixO (updO f1 f4) k' os)) wr∧wr.heap[wo.heap.size]?=some (.cells #[.int .i64 f1,.int .i64 f2,.int .i64 f3,.int .i64 f4,.bool false] 91 (0,0))) (fun i _=>os.length - (intOf i).toNat)
      case atStart=>exact ⟨0,Nat.zero_le _,rfl,by rw [mixO_zero,set_same HGet.out];exact HS1.out,HBx1.out⟩
      case round =>
       obtain ⟨wi,rfl⟩ : ∃ wi : World,wi=wr:=⟨_,rfl⟩
       obtain ⟨k',hk',rfl,hS2,hbx2⟩:=hrel
       by_cases hlk : k'<os.length
       ·have hlk2 : (k' : Int)<os.length:=by omega
        have hx : ((mixL (updO f1 f4) i' L).set i' (p,mixO (updO f1 f4) k' os))[i']?=some (p,mixO (updO f1 f4) k' os):=List.getElem?_set_self (by rw [mixL_len];exact hli)
        obtain ⟨y',b,off,hy',e,htb',htc',hown⟩:=hS2.lev hx
        rw [HY.out] at hy'
        obtain rfl:=Option.some.inj hy'
        simp only [Option.some.injEq,Addr.mk.injEq,and_true] at e
        obtain ⟨rfl,rfl⟩:=e
        obtain ⟨g,cap,hgv,hBg,hcap,hr⟩:=rowOd_of hown (a:=k') (by rw [mixO_len];exact hlk)
        have hgk:=mixO_get (updO f1 f4) hlk
        obtain ⟨o,ho⟩ : ∃ o,os[k']=o:=⟨_,rfl⟩
        rw [ho] at hgk
        have hgv2:=hgv
        rw [mixO_len,HYv.out] at hgv2
        simp only [Value.slice.injEq] at hgv2
        obtain ⟨rfl,_,rfl⟩:=hgv2
        rw [HYv.out] at htc'
        obtain ⟨q0,q4,fz⟩:=rowOd_at hr hgk
        have hgl : g<wi.heap.size:=hr.lt
        have hng : wo.heap.size≠g:=fun e=>by
         obtain ⟨cur,hg1,_⟩:=hr.ex
         rw [← e,hbx2] at hg1
         injection hg1 with hg1
         injection hg1 with _ hg2 _
         exact absurd hg2 (by decide)
        have k0 : wi.cell? ⟨wo.heap.size,0,none⟩=some (.int .i64 f1):=by simp [World.cell?,hbx2]
        have k3 : wi.cell? ⟨wo.heap.size,3,none⟩=some (.int .i64 f4):=by simp [World.cell?,hbx2]
        have hol : 0≤olf o∧olf o≤1048576:=by
         have:=List.getElem_mem hlk
         rw [ho] at this
         exact HBd2.out o (List.mem_flatMap.2 ⟨_,List.getElem_mem hli,by rw [HPo.out];exact this⟩)
        have hbl:=(Array.getElem?_eq_some_iff.1 hbx2).1
        have HS2:=lH hS2
        have HBx2:=lH hbx2
        have HX:=lH hx
        have HR:=lH hr
        have HGv:=lH hgv
        have HGk:=lH hgk
        have HO:=lH ho
        obtain ⟨o1,o2,o3,o4,o5⟩:=o
        simp only [olf] at q4 hol
        clear hS2 hbx2 hx hr hgv hgk ho hown
        by_cases he : o1=f1
        ·have hd : (o1==f1)=true:=by simpa using he
         clear he
         go_wp2
         go_region
         go_wp2
         go_region
         obtain ⟨n1,n2⟩:=HS2.out.set HB'.out HX.out HY.out HGv.out hBg hcap HR.out HGk.out f4
         have hsm:=mixO_succ (updO f1 f4) hlk
         rw [HO.out,show updO f1 f4 (o1,o2,o3,o4,o5)=less (o1,o2,o3,o4,o5) f4 from if_pos (by simpa using hd)] at hsm
         rw [List.set_set,← hsm] at n1
         have HRel:=lH (show FS B Bo' hs0 hs w fs (.slice (some ⟨b2,off2,none⟩) n c2) (.slice (some ⟨tb,toff,none⟩) L.length ct) ((mixL (updO f1 f4) i' L).set i' (p,mixO (updO f1 f4) (k'+1) os)) ((wi.setCell ⟨g,k'*5+4,none⟩ (.int .i64 (o5 - f4))).drew.drew)∧((wi.setCell ⟨g,k'*5+4,none⟩ (.int .i64 (o5 - f4))).drew.drew).heap[wo.heap.size]?=some (.cells #[.int .i64 f1,.int .i64 f2,.int .i64 f3,.int .i64 f4,.bool false] 91 (0,0)) from ⟨n1.stays (Below.refl _ _).drew.drew,(n2 _ hng).trans HBx2.out⟩)
         clear n1 n2 hsm
         go_wp2
         go_roundw
         case rel=>exact ⟨k'+1,by omega,by go_num,HRel.out.1,HRel.out.2⟩
         case measure=>simp [intOf];omega
        ·have hd : (o1==f1)=false:=by simpa using he
         clear he
         go_wp2
         go_region
         have hsm:=mixO_same (updO f1 f4) hlk (by rw [HO.out];exact if_neg (fun e=>by rw [show o1=f1 from e] at hd;simp at hd))
         have HRel:=lH (show FS B Bo' hs0 hs w fs (.slice (some ⟨b2,off2,none⟩) n c2) (.slice (some ⟨tb,toff,none⟩) L.length ct) ((mixL (updO f1 f4) i' L).set i' (p,mixO (updO f1 f4) (k'+1) os)) wi.drew∧wi.drew.heap[wo.heap.size]?=some (.cells #[.int .i64 f1,.int .i64 f2,.int .i64 f3,.int .i64 f4,.bool false] 91 (0,0)) from ⟨by rw [hsm];exact HS2.out.stays (Below.refl _ _).drew,HBx2.out⟩)
         clear hsm
         go_wp2
         go_roundw
         case rel=>exact ⟨k'+1,by omega,by go_num,HRel.out.1,HRel.out.2⟩
         case measure=>simp [intOf];omega
       ·obtain rfl : k'=os.length:=by omega
        have hsu:=mixL_succ (updO f1 f4) hli
        rw [HPo.out] at hsu
        have HRel:=lH (show FS B Bo' hs0 hs w fs (.slice (some ⟨b2,off2,none⟩) n c2) (.slice (some ⟨tb,toff,none⟩) L.length ct) (mixL (updO f1 f4) (i'+1) L) wi∧wi.heap[wo.heap.size]?=some (.cells #[.int .i64 f1,.int .i64 f2,.int .i64 f3,.int .i64 f4,.bool false] 91 (0,0)) from ⟨by rw [hsu];exact hS2,hbx2⟩)
        clear hS2 hbx2 hsu
        go_wp2
        go_roundw
        case rel=>exact ⟨i'+1,by omega,by go_num,HRel.out.1,HRel.out.2⟩
        case measure=>simp [intOf];omega
     ·obtain rfl : i'=L.length:=by omega
      have hup : FS B Bo' hs0 hs w fs (.slice (some ⟨b2,off2,none⟩) n c2) (.slice at1 L.length ct) (upd f1 f4 L) wm:=by
       have:=HS1.out
       rw [mixL_all,upd_map] at this
       exact this
      have hl3 : (upd f1 f4 L).length=L.length:=by unfold upd;rw [List.length_map]
      have hl4 : (flat (upd f1 f4 L)).length=(flat L).length:=by rw [flat_upd,List.length_map]
      have HRel:=lH (show upd f1 f4 L=fil l (fs.take (j+1))∧FS B Bo' hs0 hs w fs (.slice (some ⟨b2,off2,none⟩) n c2) (.slice at1 L.length ct) (upd f1 f4 L) wm∧(upd f1 f4 L).length=L.length∧(flat (upd f1 f4 L)).length=(flat L).length from ⟨HSn2.out.symm,hup,hl3,hl4⟩)
      clear hup hl3 hl4
      go_wp2
      go_roundw
      case rel=>exact ⟨j+1,upd f1 f4 L,Bo',hs,by omega,by go_num,HRel.out.1,HB'.out,HRel.out.2.1,fun h=>by omega,by rw [HRel.out.2.2.1];exact hl1,by rw [HRel.out.2.2.2];exact hl2⟩
      case measure=>simp [intOf];omega
   ·have hsn2 : fil l (fs.take (j+1))=rem L f1:=by rw [HSn.out];rfl
    have HSn2:=lH hsn2
    have hbd:=HBd.out hlt
    have HBd2:=lH hbd
    have hBV : B.le V.heap.size:=HB'.out.mono HSV.out.le
    have hLL:=(mine_lvs HB'.out HSV.out.mine).ll HSV.out.is
    have HBV:=lH hBV
    have HLL:=lH hLL
    have hr1 : (rem L f1).length≤L.length:=remL_len f1 L false
    have hr2:=(rem_flat_sub L f1).length_le
    clear hsn2 hla hbd hBV hLL
    go_wp2_with fail
    rw [← HV.out]
    refine (rRemove2_any B L _ f1 V HLL.out HBV.out hm hfl).mono ?_
    rintro e V2 ⟨v2,rfl,hbR,hs2,hi2,hm2⟩
    have HRel:=lH (show rem L f1=fil l (fs.take (j+1))∧FS B V.heap.size hs0 hs2 w fs (.slice (some ⟨b2,off2,none⟩) n c2) v2 (rem L f1) V2 from ⟨HSn2.out.symm,HSV.out.anew hbR hi2 hm2⟩)
    clear hi2 hm2
    go_wp2
    go_roundw
    case rel=>exact ⟨j+1,rem L f1,V.heap.size,hs2,by omega,by go_num,HRel.out.1,HBV.out,HRel.out.2,fun _ o ho=>HBd2.out o ((rem_flat_sub L f1).subset ho),by omega,by omega⟩
    case measure=>simp [intOf];omega
  ·obtain rfl : j=n:=by omega
   have e1 : fil l fs=L:=by rw [HLe.out,HN.out,List.take_length]
   have HE:=lH e1
   clear e1
   go_wp2
   go_ret
   exact ⟨_,rfl,by rw [HE.out];exact (mine_lvs HB'.out HS.out.mine).ll HS.out.is,HS.out.alt⟩
end Go.Proofs.YthecinmekoaphaaGreat.Bk
namespace Go.Proofs.YthecinmekoaphaaGreat.Bk
open Go.RowKit
open Rw
open Da
open Le
theorem set3 {w : World} {b o : Nat} {x y z v : Value} {t : TypeId} (h : w.heap[b]?=some (.cells #[x,y,z] t (0,0))) : (w.setCell ⟨b,o,none⟩ v).heap[b]?=some (.cells (#[x,y,z].setIfInBounds o v) t (0,0)):=by
 simp [World.setCell,Array.getElem?_modify,h]
theorem blk_ge {B : Bs} {Bo : Nat} {l : List Lv} {hs : List Hw} {w : World} (h : Mine B Bo l hs w) : ∀ b,Blk hs b→Bo≤b∧b<w.heap.size:=fun b hx=>by
 obtain ⟨i,y,hy,hg⟩:=hx
 have hl:=h.len
 have hil : i<l.length:=by have:=(List.getElem?_eq_some_iff.1 hy).1;omega
 exact Own.block (h.own i _ y (List.getElem?_eq_getElem hil) hy).2 _ hg
theorem keeps_setRow {B : Bs} {ts : List TypeId} {w : World} {b : Nat} {cur : Array Value} {t : TypeId} {fr : Nat × Nat} (c : Array Value) (h : w.heap[b]?=some (.cells cur t fr)) (ht : t ∉ ts) (hB : B.lo≤b) : Keeps B ts w (w.setRow b c) :=
 ⟨by rw [setRow_size];exact Nat.le_refl _,fun i ob hi ho=>by
  by_cases e : i=b
  ·subst e
   rw [h] at hi
   obtain rfl:=Option.some.inj hi
   rcases ho with ho | ⟨_,_,_,he,hm,_⟩
   ·omega
   ·simp only [Obj.cells.injEq] at he
    exact absurd (he.2.1 ▸ hm) ht
  ·exact (setRow_other w b i c e).trans hi⟩
structure MyB (B : Bs) (Bo : Nat) (b : Bk) (x y : Value) (hs1 hs2 : List Hw) (w : World) : Prop where
 i1 : Is eF 98 B hs1 x w
 m1 : Mine B Bo b.1 hs1 w
 i2 : Is eF 98 B hs2 y w
 m2 : Mine B Bo b.2.1 hs2 w
 o1 : LL (B.but (Blk hs2)) b.1 x w
 o2 : LL (B.but (Blk hs1)) b.2.1 y w
theorem MyB.stays {B : Bs} {Bo : Nat} {b : Bk} {x y : Value} {hs1 hs2 : List Hw} {w w' : World} (h : MyB B Bo b x y hs1 hs2 w) (hb : Below w.heap.size w w') : MyB B Bo b x y hs1 hs2 w' :=
 ⟨Is.stays eF 98 h.i1 hb,h.m1.stays hb,Is.stays eF 98 h.i2 hb,h.m2.stays hb,Is.stays eL 98 h.o1 hb,Is.stays eL 98 h.o2 hb⟩
theorem MyB.bl {B : Bs} {Bo : Nat} {b : Bk} {x y : Value} {hs1 hs2 : List Hw} {w : World} (h : MyB B Bo b x y hs1 hs2 w) : BL B b (.agg #[x,y,.int .i64 b.2.2]) w :=
 ⟨x,y,rfl,Is.up eL 98 (Bs.sub_but _ _) h.o1,Is.up eL 98 (Bs.sub_but _ _) h.o2⟩
theorem rOwnB_any (B : Bs) (b : Bk) (v : Value) (w : World) (h : BL B b v w) (hB : B.le w.heap.size) (h1 : b.1.length≤1000000) (h2 : (flat b.1).length≤1000000) (h3 : b.2.1.length≤1000000) (h4 : (flat b.2.1).length≤1000000) :
  Calls Tryz.prog 76 #[v] w fun e w'=>∃ x y hs1 hs2,e=.returned (.agg #[x,y,.int .i64 b.2.2])∧Below w.heap.size w w'∧MyB B w.heap.size b x y hs1 hs2 w':=by
 obtain ⟨x,y,rfl,hx,hy⟩:=h
 obtain ⟨n,hn⟩ : ∃ n,b.2.2=n:=⟨_,rfl⟩
 rw [hn]
 obtain ⟨a1,c1,rfl⟩:=hx.len
 obtain ⟨a2,c2,rfl⟩:=hy.len
 obtain ⟨V,hV⟩ : ∃ V,V=(w.alloc (.cells #[.slice a1 b.1.length c1,.slice a2 b.2.1.length c2,.int .i64 n] 25)).alloc (.cells #[.slice none 0 0,.slice none 0 0,.int .i64 0] 25):=⟨_,rfl⟩
 have hbV : Below w.heap.size w V:=hV ▸ below2 w _ _
 have hzV : V.heap.size=w.heap.size+2:=by rw [hV];simp
 have hk0 : V.heap[w.heap.size]?=some (.cells #[.slice a1 b.1.length c1,.slice a2 b.2.1.length c2,.int .i64 n] 25 (0,0)):=by
  rw [hV]
  exact ((below1 _ _).block _ (by simp)).trans (heap_alloc_new w _)
 have hk1 : V.heap[w.heap.size+1]?=some (.cells #[.slice none 0 0,.slice none 0 0,.int .i64 0] 25 (0,0)):=by
  have:=heap_alloc_new (w.alloc (.cells #[.slice a1 b.1.length c1,.slice a2 b.2.1.length c2,.int .i64 n] 25)) (.cells #[.slice none 0 0,.slice none 0 0,.int .i64 0] 25)
  rw [World.size_alloc] at this
  rw [hV];exact this
 have HK0:=lH hk0
 have HK1:=lH hk1
 have HX:=lH hx
 have HY:=lH hy
 have HV:=lH hV
 clear hx hy hV hk0 hk1 hn
 go_enter Tryz.func76,Tryz.ntmps76
 go_wp2_with fail
 rw [← HV.out]
 refine (rLevels2_any B b.1 _ V (Is.stays eL 98 HX.out hbV) (hB.mono (by omega)) h1 h2).mono ?_
 rintro e w1 ⟨x1,rfl,hb1,hs1,hi1,hm1⟩
 obtain ⟨a3,c3,rfl⟩:=hi1.len
 obtain ⟨n3,hn3⟩ : ∃ n3,hs1.length=n3:=⟨_,rfl⟩
 rw [hn3] at hi1 ⊢
 have hz1:=hb1.size
 have g0:=(hb1.block w.heap.size (by omega)).trans HK0.out
 have g1:=(hb1.block (w.heap.size+1) (by omega)).trans HK1.out
 obtain ⟨U,hU⟩ : ∃ U,U=w1.setCell ⟨w.heap.size,0,none⟩ (.slice a3 n3 c3):=⟨_,rfl⟩
 have hzU : U.heap.size=w1.heap.size:=by rw [hU];simp
 have hlU : Below w.heap.size w1 U:=by rw [hU];exact low_setCell 0 _ (Nat.le_refl _)
 have hbw1 : Below w.heap.size w w1:=nx hbV hb1
 have hbU : Below w.heap.size w U:=hbw1.trans hlU
 have g0U : U.heap[w.heap.size]?=some (.cells #[.slice a3 n3 c3,.slice a2 b.2.1.length c2,.int .i64 n] 25 (0,0)):=by rw [hU];exact set3 g0
 have g1U : U.heap[w.heap.size+1]?=some (.cells #[.slice none 0 0,.slice none 0 0,.int .i64 0] 25 (0,0)):=by
  rw [hU,Below.heap_setCell w1 ⟨w.heap.size,0,none⟩ _ (w.heap.size+1) (by show w.heap.size+1≠w.heap.size;omega)];exact g1
 have hkp : ∀ A : Bs,A.lo≤w.heap.size→∀ ts,25 ∉ ts→Keeps A ts w1 U:=fun A hA ts ht=>by rw [hU];exact keeps_setCell 0 _ g0 ht hA
 have hlo:=hB.1
 have hi1U : Is eF 98 B hs1 (.slice a3 n3 c3) U:=Is.keep eF 98 hi1 (hkp B hlo _ (by decide))
 have hm1U : Mine B V.heap.size b.1 hs1 U:=hm1.keep (hB.mono (by omega)) (hkp B hlo _ (by decide))
 have hbk:=blk_ge hm1U
 have hyU : LL (B.but (Blk hs1)) b.2.1 (.slice a2 b.2.1.length c2) U:=Is.stays eL 98 (Is.now eL 98 HY.out (fun b' hb'=>by have:=hbk b' hb';omega)) hbU
 have HI1:=lH hi1U
 have HM1:=lH hm1U
 have HYU:=lH hyU
 have HG0:=lH g0U
 have HG1:=lH g1U
 have HU:=lH hU
 have HKp:=lH hkp
 have c0 : w1.cell? ⟨w.heap.size,0,none⟩=some (.slice a1 b.1.length c1):=by simp [World.cell?,g0]
 have f0 : w1.frozen? ⟨w.heap.size,0,none⟩=false:=by simp [World.frozen?,g0]
 have c1' : w1.cell? ⟨w.heap.size,1,none⟩=some (.slice a2 b.2.1.length c2):=by simp [World.cell?,g0]
 clear hi1U hm1U hyU g0U g1U hU hkp g0 g1 hi1 hm1
 go_wp2_with fail
 rw [← HU.out]
 refine (rLevels2_any (B.but (Blk hs1)) b.2.1 _ U HYU.out (Bs.but_le (hB.mono (by omega)) (fun b' hb'=>(hbk b' hb').2)) h3 h4).mono ?_
 rintro e w2 ⟨y1,rfl,hb2,hs2,hi2,hm2⟩
 obtain ⟨a4,c4,rfl⟩:=hi2.len
 obtain ⟨n4,hn4⟩ : ∃ n4,hs2.length=n4:=⟨_,rfl⟩
 rw [hn4] at hi2 ⊢
 have hz2:=hb2.size
 have g0:=(hb2.block w.heap.size (by omega)).trans HG0.out
 have g1:=(hb2.block (w.heap.size+1) (by omega)).trans HG1.out
 have f1 : w2.frozen? ⟨w.heap.size,1,none⟩=false:=by simp [World.frozen?,g0]
 have d1 : w2.cell? ⟨w.heap.size,1,none⟩=some (.slice a2 b.2.1.length c2):=by simp [World.cell?,g0]
 clear c0 f0 c1'
 obtain ⟨W,hW⟩ : ∃ W,W=w2.setCell ⟨w.heap.size,1,none⟩ (.slice a4 n4 c4):=⟨_,rfl⟩
 have hzW : W.heap.size=w2.heap.size:=by rw [hW];simp
 have hlW : Below w.heap.size w2 W:=by rw [hW];exact low_setCell 1 _ (Nat.le_refl _)
 have hbW : Below w.heap.size w W:=(nx hbU hb2).trans hlW
 have g0W : W.heap[w.heap.size]?=some (.cells #[.slice a3 n3 c3,.slice a4 n4 c4,.int .i64 n] 25 (0,0)):=by rw [hW];exact set3 g0
 have g1W : W.heap[w.heap.size+1]?=some (.cells #[.slice none 0 0,.slice none 0 0,.int .i64 0] 25 (0,0)):=by
  rw [hW,Below.heap_setCell w2 ⟨w.heap.size,1,none⟩ _ (w.heap.size+1) (by show w.heap.size+1≠w.heap.size;omega)];exact g1
 have hkp : ∀ A : Bs,A.lo≤w.heap.size→∀ ts,25 ∉ ts→Keeps A ts w2 W:=fun A hA ts ht=>by rw [hW];exact keeps_setCell 1 _ g0 ht hA
 have r0 : row w2 w.heap.size=#[.slice a3 n3 c3,.slice a2 b.2.1.length c2,.int .i64 n]:=by simp [Rw.row,g0]
 have rS : row (w2.setCell ⟨w.heap.size,1,none⟩ (.slice a4 n4 c4)) w.heap.size=#[.slice a3 n3 c3,.slice a4 n4 c4,.int .i64 n]:=by
  rw [← hW];simp [Rw.row,g0W]
 have p1 : plain 3 w2 (w.heap.size+1)=true:=by simp [Rw.plain,g1]
 have hw2 : w.heap.size+1<w2.heap.size:=by omega
 obtain ⟨Z,hZ⟩ : ∃ Z,Z=W.setRow (w.heap.size+1) #[.slice a3 n3 c3,.slice a4 n4 c4,.int .i64 n]:=⟨_,rfl⟩
 have hkz : ∀ A : Bs,A.lo≤w.heap.size→∀ ts,25 ∉ ts→Keeps A ts w2 Z:=fun A hA ts ht=>(hkp A hA ts ht).trans (by rw [hZ];exact keeps_setRow _ g1W ht (by omega))
 have hbZ : Below w.heap.size w Z:=by rw [hZ];exact below_setRow hbW (Nat.le_succ _) _
 have hrZ : row Z (w.heap.size+1)=#[.slice a3 n3 c3,.slice a4 n4 c4,.int .i64 n]:=by
  unfold Rw.row
  rw [hZ,setRow_heap W _ _ _ _ _ g1W]
 have hk2 : ∀ A : Bs,A.lo≤w.heap.size→∀ ts,25 ∉ ts→Keeps A ts U Z:=fun A hA ts ht=>(Keeps.of_below hb2).trans (hkz A hA ts ht)
 have hm1Z : Mine B w.heap.size b.1 hs1 Z:=by
  have:=HM1.out.keep (hB.mono (by omega)) (hk2 B hlo _ (by decide))
  exact ⟨this.len,fun i x y hx hy=>⟨(this.own i x y hx hy).1,Own.lower (this.own i x y hx hy).2 (by omega)⟩,this.apart⟩
 have hm2Z : Mine B w.heap.size b.2.1 hs2 Z:=by
  have:=Mine.keep (Bs.but_le (hB.mono (show w.heap.size≤U.heap.size by omega)) (fun b' hb'=>(hbk b' hb').2)) hm2 (hkz (B.but (Blk hs1)) hlo _ (by decide))
  exact ⟨this.len,fun i x y hx hy=>⟨(this.own i x y hx hy).1,Own.lower (this.own i x y hx hy).2 (by omega)⟩,this.apart⟩
 have hbk2:=blk_ge hm2
 have hRes : MyB B w.heap.size b (.slice a3 n3 c3) (.slice a4 n4 c4) hs1 hs2 Z :=
  ⟨Is.keep eF 98 HI1.out (hk2 B hlo _ (by decide)),hm1Z,Is.keep eF 98 (Is.up eF 98 (Bs.sub_but _ _) hi2) (hkz B hlo _ (by decide)),hm2Z,
   Is.keep eL 98 (Is.now eL 98 ((mine_lvs (hB.mono (by omega)) HM1.out).ll HI1.out) (fun b' hb'=>(hbk2 b' hb').1)) (hk2 (B.but _) hlo _ (by decide)),
   Is.keep eL 98 ((mine_lvs (Bs.but_le (hB.mono (by omega)) (fun b' hb'=>(hbk b' hb').2)) hm2).ll hi2) (hkz (B.but _) hlo _ (by decide))⟩
 have HRes:=lH (show _∧_ from ⟨hbZ,hRes⟩)
 have HW:=lH hW
 have HZ:=lH hZ
 clear hbZ hRes hm1Z hm2Z hk2 hkz hkp g0W g1W g0 g1 hW hZ hi2 hm2 hbW hlW hbU hlU hbw1 hb1 hb2 hbV
 go_wp2
 rw [← HW.out,← HZ.out]
 refine bodyPost_ret (v:=.agg #[.slice a3 n3 c3,.slice a4 n4 c4,.int .i64 n]) (ret_B1 Tryz.results76 _ _ rfl ?c1) rfl ⟨_,_,_,_,rfl,HRes.out⟩
 case c1=>simp [go_sem,hrZ]
end Go.Proofs.YthecinmekoaphaaGreat.Bk
