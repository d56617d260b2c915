/- Package level as it landed: Right. -/
import Derived.Test.YthecinmekoaphaaGreatQbZZ
import Derived.Test.YthecinmekoaphaaGreatQbBH
import Derived.Test.YthecinmekoaphaaGreatQbBD
import Derived.Deep.LoopGhost
import Derived.Sort.Walk0
import Derived.Test.YthecinmekoaphaaGreatQbBE
import Derived.Test.YthecinmekoaphaaGreatQbAM
set_option linter.unusedVariables false
set_option maxRecDepth 16000
set_option maxHeartbeats 32000000
namespace Go.Proofs.YthecinmekoaphaaGreat.Le
open Go.RowKit
open Rw
open Da
theorem ahead_is {s a b : Int} {r : Bool} (hr : Hid (ahead s a b=r)) (g : Nat) {w : World} (hg : g<w.heap.size∧w.cell? ⟨g,0,none⟩=some (.int .i64 s)) : Calls Tryz.prog 142 #[.int .i64 a,.int .i64 b,.pointer (some ⟨g,0,none⟩)] w fun e w'=>e=.returned (.bool r)∧w=w':=by
 rw [← hr.out];exact ahead_any s a b g w hg.1 hg.2
theorem lvB_iff {s p : Int} {os : List Od} : lvB s p os=true ↔ okLv s (p,os):=by
 unfold lvB okLv okO
 simp only [Bool.and_eq_true,List.all_eq_true,decide_eq_true_eq]
 constructor
 ·rintro ⟨h1,h2⟩
  exact ⟨fun e=>by have e2 : os=[]:=e;subst e2;simp at h2,h1⟩
 ·rintro ⟨h1,h2⟩
  refine ⟨h2,?_⟩
  cases os with
  | nil=>exact absurd rfl h1
  | cons=>rfl
def RgtL (s : Int) (l : List Lv) : Prop:=(∀ v∈l,okLv s v)∧l.Pairwise (fun a b=>ahead s a.1 b.1=true)
theorem rgt_snoc {s : Int} {l : List Lv} {k : Nat} (hk : k<l.length) (h : RgtL s (l.take k)) (hv : okLv s l[k]) (ha : k=0∨∃ h : k - 1<l.length,ahead s l[k - 1].1 l[k].1=true) : RgtL s (l.take (k+1)):=by
 rw [Da.take_snoc hk]
 refine ⟨fun v hm=>?_,?_⟩
 ·rcases List.mem_append.1 hm with hm | hm
  ·exact h.1 v hm
  ·simp only [List.mem_singleton] at hm;rw [hm];exact hv
 ·rw [List.pairwise_append]
  refine ⟨h.2,by simp,fun a ha' b hb=>?_⟩
  simp only [List.mem_singleton] at hb
  subst hb
  rcases ha with e | ⟨hk1,ha⟩
  ·subst e;simp at ha'
  ·obtain ⟨i,hi,rfl⟩:=List.getElem_of_mem ha'
   rw [List.length_take] at hi
   have hi2 : i<k:=by omega
   rw [List.getElem_take]
   by_cases e : i=k - 1
   ·subst e;exact ha
   ·have hp:=List.pairwise_iff_getElem.1 h.2 i (k - 1) (by rw [List.length_take];omega) (by rw [List.length_take];omega) (by omega)
    rw [List.getElem_take,List.getElem_take] at hp
    exact ahead_trans hp ha
theorem rgt_all {s : Int} {l : List Lv} (hs : s=1∨s=2) (h : RgtL s l) : rightL s l=nodB (flat l):=by
 rw [Bool.eq_iff_iff,rightL_iff]
 unfold nodB
 rw [decide_eq_true_iff]
 exact ⟨fun k=>k.2.2.2,fun k=>⟨hs,h.1,h.2,k⟩⟩
theorem right_side {s : Int} {l : List Lv} (h : ¬ (s=1∨s=2)) : rightL s l=false:=rightL_no fun k=>h k.1
theorem right_at {s : Int} {l : List Lv} {k : Nat} (hk : k<l.length) (h : RightL s l) : okLv s l[k]∧∀ (_ : 0<k),ahead s (l[k - 1]'(by omega)).1 l[k].1=true :=
 ⟨h.2.1 _ (List.getElem_mem hk),fun h0=>List.pairwise_iff_getElem.1 h.2.2.1 (k - 1) k (by omega) hk (by omega)⟩
theorem right_big (B : Bs) (l : List Lv) (v : Value) (s : Int) (w : World) (h : LL B l v w) (hB : B.le w.heap.size) (hm : l.length≤1000000) (hf : (flat l).length≤1000000) :
  Calls Tryz.prog 99 #[v,.int .i64 s] w fun e w'=>e=.returned (.bool (rightL s l))∧Below w.heap.size w w':=by
 by_cases hs : s=1∨s=2
 ·have hcase : (s != 1)=true∧(s != 2)=false∨(s != 1)=false:=by rcases hs with e | e<;>simp [e]
  obtain ⟨a1,c1,rfl,h1⟩:=h
  have HA:=lH h1
  have HL : Hid (∀ u,Below w.heap.size w u→LL B l (.slice a1 l.length c1) u):=lH fun u hu=>Is.stays eL 98 ⟨a1,c1,rfl,h1⟩ hu
  have HBl : Hid (∀ u,Below w.heap.size w u→B.le u.heap.size):=lH fun u hu=>hB.mono hu.size
  have HFl:=lH hf
  obtain ⟨n,hn⟩ : ∃ n,n=l.length:=⟨_,rfl⟩
  rw [← hn] at hm ⊢
  have HN:=lH hn
  have HSd:=lH hs
  obtain ⟨r,hr⟩ : ∃ r,rightL s l=r:=⟨_,rfl⟩
  rw [hr]
  have HR:=lH hr
  have HNo : Hid (¬ RightL s l→r=false):=lH fun h=>by rw [← hr];exact rightL_no h
  clear h1 hn hf hr hs hB
  rcases hcase with ⟨d1,d2⟩ | d1
  all_goals
   go_enter Tryz.func99,Tryz.ntmps99
   go_wp2_with fail
   refine (aheadOn_any s _).mono ?_
   rintro e W ⟨f,rfl,hbW,hf⟩
   have HAh:=lH (show ∀ u,Below W.heap.size W u→Ahd s f u from fun u hu=>hf.stays hu)
   obtain ⟨g,rfl,hg,hgc⟩:=hf
   have HG:=lH (show ∀ u,Below W.heap.size W u→g<u.heap.size∧u.cell? ⟨g,0,none⟩=some (.int .i64 s) from fun u hu=>⟨Nat.lt_of_lt_of_le hg hu.size,(hu.cell (p:=⟨g,0,none⟩) hg).trans hgc⟩)
   clear hg hgc HAh
   go_wp2
   go_loopw [6,18] (fun _ i wr=>∃ k : Nat,k≤n∧i=.int .i64 k∧Below W.heap.size W wr∧RgtL s (l.take k)) (fun _ i _=>n - (intOf i).toNat)
   case atStart=>exact ⟨0,Nat.zero_le _,rfl,Below.refl _ _,by simp,by simp⟩
   case round =>
    obtain ⟨wo,rfl⟩ : ∃ wo : World,wo=wr:=⟨_,rfl⟩
    obtain ⟨k,hk,rfl,hb,hrt⟩:=hrel
    have HT:=lH hrt
    clear hrt
    have hbo:=nx hbW hb
    by_cases hlt : k<n
    ·have hlt2 : (k : Int)<n:=by omega
     have hkl : k<l.length:=by rw [← HN.out];exact hlt
     rcases HA.out with ⟨e,_⟩ | ⟨b,off,rfl,hat⟩
     ·rw [e] at hkl;cases hkl
     have hat2:=Lies.keep eL 98 hat (Keeps.of_below hbo)
     have hbb:=hat2.1
     obtain ⟨x,q0,q1,hx⟩:=atL hat2 k hkl
     have hle:=flat_take_le l (k+1)
     rw [flat_take_snoc hkl,List.length_append] at hle
     have hpt:=lH (fun h : RightL s l=>right_at hkl h)
     have hsn:=lH (rgt_snoc hkl HT.out)
     obtain ⟨⟨pr,os⟩,hlk⟩ : ∃ y,l[k]'hkl=y:=⟨_,rfl⟩
     rw [hlk] at q0 hx hle hpt hsn
     simp only at q0 hx hle hpt hsn
     have hosl : os.length≤1000000:=by have:=HFl.out;omega
     have HX0:=lH hx
     obtain ⟨a2,c2,rfl⟩:=hx.len
     obtain ⟨V,hV⟩ : ∃ V,V=wo.alloc (.cells #[.int .i64 pr,.slice a2 os.length c2] 98):=⟨_,rfl⟩
     have hbV : Below wo.heap.size wo V:=hV ▸ below1 wo _
     have hzV : wo.heap.size<V.heap.size:=by rw [hV];simp
     have s0 : V.cell? ⟨wo.heap.size,0,none⟩=some (.int .i64 pr):=by rw [hV];simp [go_sem]
     have s1 : V.cell? ⟨wo.heap.size,1,none⟩=some (.slice a2 os.length c2):=by rw [hV];simp [go_sem]
     have hbw:=nx hb hbV
     have hF : ∀ u,Below V.heap.size V u→u.cell? ⟨wo.heap.size,0,none⟩=some (.int .i64 pr)∧u.cell? ⟨wo.heap.size,1,none⟩=some (.slice a2 os.length c2):=fun u hu =>
      ⟨by rw [hu.cell (p:=⟨wo.heap.size,0,none⟩) hzV];exact s0,by rw [hu.cell (p:=⟨wo.heap.size,1,none⟩) hzV];exact s1⟩
     have HX:=lH (show ∀ u,Below V.heap.size V u→OL B os (.slice a2 os.length c2) u from fun u hu=>Is.stays eO 70 HX0.out (nx hbV hu))
     have HGv:=lH (show ∀ u,Below V.heap.size V u→g<u.heap.size∧u.cell? ⟨g,0,none⟩=some (.int .i64 s) from fun u hu=>HG.out u (nx hbw hu))
     have HV:=lH hV
     clear hV hle s0 s1 hx
     cases hlv : lvB s pr os
     ·have HLv:=lH hlv
      have HZ : Hid (r=false):=lH (HNo.out fun h=>by
       have:=lvB_iff.2 (hpt.out h).1
       rw [hlv] at this;cases this)
      clear hlv hlk
      go_wp2
      rw [← HV.out]
      refine Rf.rg [0,1,2,3,4,5,6,7,8,9,10,11,12,13,14,15,16,17,18,19,20] ?_
      repeat (first | (refine Rf.Steps.sk ?_;simp only [Act.put,sA,sB,sC]) | (refine Rf.Steps.pu (v:=?_) ?_ ?_;rotate_left;(intro w_ hS_;have hk_:=hF w_ hS_;go_simp<;>with_reducible rfl);simp only [Act.put,sA,sB,sC]) | (refine Rf.Steps.ca (v:=?_) (f:=?_) (args:=?_) ?_ ?_ ?_;rotate_left 3;(intro w_ hS_;have hk_:=hF w_ hS_;go_simp<;>first | with_reducible rfl | (constructor<;>with_reducible rfl));(intro w_ hS_;have hk_:=hF w_ hS_;first | (go_at_call 129;refine (isLevel_is HLv (HX.out w_ hS_) hosl).mono ?_;first | (rintro e w_ ⟨rfl,rfl⟩;refine ⟨?_,Below.refl _ _⟩;with_reducible rfl) | (rintro e w_ ⟨rfl,hb_⟩;refine ⟨?_,hb_⟩;with_reducible rfl)));simp only [Act.put,sA,sB,sC]))
      refine Rf.Steps.nil (by kernel_rfl) ?_
      intro w4 hb6
      go_wp2
      go_ret
      exact ⟨ret_bool HZ.out.symm,nx hbW (nx hbw hb6)⟩
     have HLv:=lH hlv
     have HLv2:=lH (lvB_iff.1 hlv)
     clear hlv
     have hway : (k=0∧decide ((0 : Int)<(k : Int))=false)∨(0<k∧decide ((0 : Int)<(k : Int))=true):=by
      rcases Nat.eq_zero_or_pos k with e | e
      ·exact .inl ⟨e,by simp [e]⟩
      ·exact .inr ⟨e,by simpa using e⟩
     rcases hway with ⟨hk0,d3⟩ | ⟨hk0,d3⟩
     ·have d3' : decide (0<k)=false:=by simp [hk0]
      have HN2 : Hid (RgtL s (l.take (k+1))):=lH (hsn.out HLv2.out (.inl hk0))
      clear hk0 hlk
      go_wp2
      rw [← HV.out]
      refine Rf.rg [0,1,2,3,4,5,6,7,8,9,10,11,12,13,14,15,16,17,18,19,20] ?_
      repeat (first | (refine Rf.Steps.sk ?_;simp only [Act.put,sA,sB,sC]) | (refine Rf.Steps.pu (v:=?_) ?_ ?_;rotate_left;(intro w_ hS_;have hk_:=hF w_ hS_;go_simp<;>with_reducible rfl);simp only [Act.put,sA,sB,sC]) | (refine Rf.Steps.ca (v:=?_) (f:=?_) (args:=?_) ?_ ?_ ?_;rotate_left 3;(intro w_ hS_;have hk_:=hF w_ hS_;go_simp<;>first | with_reducible rfl | (constructor<;>with_reducible rfl));(intro w_ hS_;have hk_:=hF w_ hS_;first | (go_at_call 129;refine (isLevel_is HLv (HX.out w_ hS_) hosl).mono ?_;first | (rintro e w_ ⟨rfl,rfl⟩;refine ⟨?_,Below.refl _ _⟩;with_reducible rfl) | (rintro e w_ ⟨rfl,hb_⟩;refine ⟨?_,hb_⟩;with_reducible rfl)));simp only [Act.put,sA,sB,sC]))
      refine Rf.Steps.nil (by kernel_rfl) ?_
      intro w4 hb6
      go_wp2
      go_roundw
      case rel=>exact ⟨k+1,by omega,by go_num,nx hbw hb6,HN2.out⟩
      case measure=>simp [intOf];omega
     ·have d3' : decide (0<k)=true:=by simpa using hk0
      have hkp : k - 1<l.length:=by omega
      obtain ⟨x',t0,t1,_⟩:=atL hat2 (k - 1) hkp
      obtain ⟨pp,hpp⟩ : ∃ pp,(l[k - 1]'hkp).1=pp:=⟨_,rfl⟩
      rw [hpp] at t0
      have d4 : IntKind.i64.wrap ((k : Int) - 1)=(k : Int) - 1:=IntWalk.i64_in _ (by omega)
      have d5 : ((k : Int) - 1).toNat=k - 1:=by omega
      have d6 : (0 : Int)≤(k : Int) - 1:=by omega
      have d6' : (1 : Int)≤(k : Int):=by omega
      have d7 : (k : Int) - 1<n:=by omega
      have hF2 : ∀ u,Below V.heap.size V u→(u.cell? ⟨wo.heap.size,0,none⟩=some (.int .i64 pr)∧u.cell? ⟨wo.heap.size,1,none⟩=some (.slice a2 os.length c2))∧u.cell? ⟨b,off+(k - 1)*2,none⟩=some (.int .i64 pp):=fun u hu =>
       ⟨hF u hu,by rw [(nx hbV hu).cell (p:=⟨b,off+(k - 1)*2,none⟩) hbb];exact t0⟩
      have HPp:=lH hpp
      have HLk:=lH hlk
      clear t1 t0 hpp hlk
      cases hah : ahead s pp pr
      ·have HQ:=lH hah
       have HZ : Hid (r=false):=lH (HNo.out fun h=>by
        have h2:=(hpt.out h).2 hk0
        rw [HPp.out,hah] at h2;cases h2)
       clear hah hF
       go_wp2
       rw [← HV.out]
       refine Rf.rg [0,1,2,3,4,5,6,7,8,9,10,11,12,13,14,15,16,17,18,19,20] ?_
       repeat (first | (refine Rf.Steps.sk ?_;simp only [Act.put,sA,sB,sC]) | (refine Rf.Steps.pu (v:=?_) ?_ ?_;rotate_left;(intro w_ hS_;have hk_:=hF2 w_ hS_;go_simp<;>with_reducible rfl);simp only [Act.put,sA,sB,sC]) | (refine Rf.Steps.ca (v:=?_) (f:=?_) (args:=?_) ?_ ?_ ?_;rotate_left 3;(intro w_ hS_;have hk_:=hF2 w_ hS_;go_simp<;>first | with_reducible rfl | (constructor<;>with_reducible rfl));(intro w_ hS_;have hk_:=hF2 w_ hS_;first | (go_at_call 129;refine (isLevel_is HLv (HX.out w_ hS_) hosl).mono ?_;first | (rintro e w_ ⟨rfl,rfl⟩;refine ⟨?_,Below.refl _ _⟩;with_reducible rfl) | (rintro e w_ ⟨rfl,hb_⟩;refine ⟨?_,hb_⟩;with_reducible rfl)) | (go_at_call 142;refine (ahead_is HQ g (HGv.out w_ hS_)).mono ?_;first | (rintro e w_ ⟨rfl,rfl⟩;refine ⟨?_,Below.refl _ _⟩;with_reducible rfl) | (rintro e w_ ⟨rfl,hb_⟩;refine ⟨?_,hb_⟩;with_reducible rfl)));simp only [Act.put,sA,sB,sC]))
       refine Rf.Steps.nil (by kernel_rfl) ?_
       intro w4 hb6
       go_wp2
       go_ret
       exact ⟨ret_bool HZ.out.symm,nx hbW (nx hbw hb6)⟩
      ·have HQ:=lH hah
       have HN2 : Hid (RgtL s (l.take (k+1))):=lH (hsn.out HLv2.out (.inr ⟨hkp,by rw [HPp.out];exact hah⟩))
       clear hah hF
       go_wp2
       rw [← HV.out]
       refine Rf.rg [0,1,2,3,4,5,6,7,8,9,10,11,12,13,14,15,16,17,18,19,20] ?_
       repeat (first | (refine Rf.Steps.sk ?_;simp only [Act.put,sA,sB,sC]) | (refine Rf.Steps.pu (v:=?_) ?_ ?_;rotate_left;(intro w_ hS_;have hk_:=hF2 w_ hS_;go_simp<;>with_reducible rfl);simp only [Act.put,sA,sB,sC]) | (refine Rf.Steps.ca (v:=?_) (f:=?_) (args:=?_) ?_ ?_ ?_;rotate_left 3;(intro w_ hS_;have hk_:=hF2 w_ hS_;go_simp<;>first | with_reducible rfl | (constructor<;>with_reducible rfl));(intro w_ hS_;have hk_:=hF2 w_ hS_;first | (go_at_call 129;refine (isLevel_is HLv (HX.out w_ hS_) hosl).mono ?_;first | (rintro e w_ ⟨rfl,rfl⟩;refine ⟨?_,Below.refl _ _⟩;with_reducible rfl) | (rintro e w_ ⟨rfl,hb_⟩;refine ⟨?_,hb_⟩;with_reducible rfl)) | (go_at_call 142;refine (ahead_is HQ g (HGv.out w_ hS_)).mono ?_;first | (rintro e w_ ⟨rfl,rfl⟩;refine ⟨?_,Below.refl _ _⟩;with_reducible rfl) | (rintro e w_ ⟨rfl,hb_⟩;refine ⟨?_,hb_⟩;with_reducible rfl)));simp only [Act.put,sA,sB,sC]))
       refine Rf.Steps.nil (by kernel_rfl) ?_
       intro w4 hb6
       clear d4 d5 d6 d7
       go_wp2
       go_roundw
       case rel=>exact ⟨k+1,by omega,by go_num,nx hbw hb6,HN2.out⟩
       case measure=>simp [intOf];omega
    ·obtain rfl : k=n:=by omega
     have hrt:=HT.out
     rw [HN.out,List.take_length] at hrt
     have HZ : Hid (r=nodB (flat l)):=lH (by rw [← HR.out];exact rgt_all HSd.out hrt)
     have hll:=HL.out wo hbo
     rw [← HN.out] at hll
     have HLo:=lH hll
     clear hrt hll
     go_wp2_with fail
     refine (ords_big B l _ wo HLo.out (HBl.out wo hbo) (by rw [← HN.out];exact hm) HFl.out).mono ?_
     rintro e w5 ⟨y,rfl,hb5,hy⟩
     go_wp2_with fail
     refine (ownIds_any B (flat l) y w5 hy HFl.out).mono ?_
     rintro e w6 ⟨rfl,hb6⟩
     go_wp2
     go_ret
     exact ⟨ret_bool HZ.out.symm,nx hbo (nx hb5 hb6)⟩
 ·have hr:=right_side (l:=l) hs
  rw [hr]
  have d1 : (s != 1)=true:=by simp;omega
  have d2 : (s != 2)=true:=by simp;omega
  clear hs hr h
  go_enter Tryz.func99,Tryz.ntmps99
  go_wp2
  go_ret
  exact ⟨rfl,Below.refl _ _⟩
def cntA (s p : Int) (l : List Lv) : Nat:=(l.takeWhile (fun v=>ahead s v.1 p)).length
def Env (B : Bs) (s p : Int) (l : List Lv) (p8 p2 p3 : Nat) (u : World) : Prop :=
 ∃ f v,(Ahd s f u∧u.cell? ⟨p8,0,none⟩=some f∧p8<u.heap.size)∧(LL B l v u∧u.cell? ⟨p2,0,none⟩=some v∧p2<u.heap.size)∧u.cell? ⟨p3,3,none⟩=some (.int .i64 p)∧p3<u.heap.size
theorem Env.stays {B : Bs} {s p : Int} {l : List Lv} {p8 p2 p3 : Nat} {u u' : World} (h : Env B s p l p8 p2 p3 u) (hb : Below u.heap.size u u') : Env B s p l p8 p2 p3 u':=by
 obtain ⟨f,v,⟨h1,h2,h3⟩,⟨h4,h5,h6⟩,h7,h8⟩:=h
 exact ⟨f,v,⟨h1.stays hb,(hb.cell (p:=⟨p8,0,none⟩) h3).trans h2,Nat.lt_of_lt_of_le h3 hb.size⟩,⟨Is.stays eL 98 h4 hb,(hb.cell (p:=⟨p2,0,none⟩) h6).trans h5,Nat.lt_of_lt_of_le h6 hb.size⟩,(hb.cell (p:=⟨p3,3,none⟩) h8).trans h7,Nat.lt_of_lt_of_le h8 hb.size⟩
theorem put1_any (B : Bs) (s p : Int) (l : List Lv) (p8 p2 p3 : Nat) (i : Nat) (hi : i<l.length) (hm : l.length≤1000000) (w : World) (h : Env B s p l p8 p2 p3 w) :
  Calls Tryz.prog 122 #[.int .i64 i,.pointer (some ⟨p8,0,none⟩),.pointer (some ⟨p2,0,none⟩),.pointer (some ⟨p3,0,none⟩)] w fun e w'=>e=.returned (.bool (!ahead s l[i].1 p))∧Below w.heap.size w w':=by
 obtain ⟨f,v,⟨⟨g,rfl,hg,hgc⟩,h2,h3⟩,⟨h4,h5,h6⟩,h7,h8⟩:=h
 rcases h4.cases with ⟨rfl,_⟩ | ⟨hne,b,off,c,rfl,hat⟩
 ·cases hi
 obtain ⟨x,q0,q1,hx⟩:=atL hat i hi
 have hbb:=hat.1
 obtain ⟨pp,hpp⟩ : ∃ pp,(l[i]'hi).1=pp:=⟨_,rfl⟩
 rw [hpp] at q0 ⊢
 obtain ⟨r,hr⟩ : ∃ r,ahead s pp p=r:=⟨_,rfl⟩
 rw [hr]
 have HQ:=lH hr
 have hF : ∀ u,Below w.heap.size w u→(u.cell? ⟨p8,0,none⟩=some (.func (.func 142) #[] #[.pointer (some ⟨g,0,none⟩)])∧u.cell? ⟨p2,0,none⟩=some (.slice (some ⟨b,off,none⟩) l.length c))∧u.cell? ⟨p3,3,none⟩=some (.int .i64 p)∧u.cell? ⟨b,off+i*2,none⟩=some (.int .i64 pp):=fun u hu =>
  ⟨⟨(hu.cell (p:=⟨p8,0,none⟩) h3).trans h2,(hu.cell (p:=⟨p2,0,none⟩) h6).trans h5⟩,(hu.cell (p:=⟨p3,3,none⟩) h8).trans h7,(hu.cell (p:=⟨b,off+i*2,none⟩) hbb).trans q0⟩
 have HG:=lH (show ∀ u,Below w.heap.size w u→g<u.heap.size∧u.cell? ⟨g,0,none⟩=some (.int .i64 s) from fun u hu=>⟨Nat.lt_of_lt_of_le hg hu.size,(hu.cell (p:=⟨g,0,none⟩) hg).trans hgc⟩)
 have hi2 : (i : Int)<l.length:=by omega
 clear h2 h3 h4 h5 h6 h7 h8 hat q0 q1 hx hg hgc hr hpp
 go_enter Tryz.func122,Tryz.ntmps122
 go_wp2
 refine Rf.rg [0,1,2,3,4,5,6,7,8,9,10] ?_
 repeat (first | (refine Rf.Steps.sk ?_;simp only [Act.put,sA,sB,sC]) | (refine Rf.Steps.pu (v:=?_) ?_ ?_;rotate_left;(intro w_ hS_;have hk_:=hF w_ hS_;go_simp<;>with_reducible rfl);simp only [Act.put,sA,sB,sC]) | (refine Rf.Steps.ca (v:=?_) (f:=?_) (args:=?_) ?_ ?_ ?_;rotate_left 3;(intro w_ hS_;have hk_:=hF w_ hS_;go_simp<;>first | with_reducible rfl | (constructor<;>with_reducible rfl));(intro w_ hS_;have hk_:=hF w_ hS_;first | (go_at_call 142;refine (ahead_is HQ g (HG.out w_ hS_)).mono ?_;first | (rintro e w_ ⟨rfl,rfl⟩;refine ⟨?_,Below.refl _ _⟩;with_reducible rfl) | (rintro e w_ ⟨rfl,hb_⟩;refine ⟨?_,hb_⟩;with_reducible rfl)));simp only [Act.put,sA,sB,sC]))
 refine Rf.Steps.nil (by kernel_rfl) ?_
 intro w4 hb6
 go_wp2
 go_ret
 exact ⟨rfl,hb6⟩
theorem cntA_of {s p : Int} : ∀ {l : List Lv} {k : Nat},k≤l.length→(∀ t (h : t<l.length),t<k→ahead s l[t].1 p=true)→(∀ t (h : t<l.length),k≤t→ahead s l[t].1 p=false)→cntA s p l=k
 | [],k,hk,_,_=>by simp at hk;subst hk;rfl
 | v :: r,0,_,_,h2=>by
  have:=h2 0 (by simp) (Nat.le_refl _)
  simp only [List.getElem_cons_zero] at this
  unfold cntA
  rw [List.takeWhile_cons,this];rfl
 | v :: r,k+1,hk,h1,h2=>by
  have h0:=h1 0 (by simp) (by omega)
  simp only [List.getElem_cons_zero] at h0
  have:=cntA_of (s:=s) (p:=p) (l:=r) (k:=k) (by simpa using hk) (fun t h ht=>by have:=h1 (t+1) (by simpa using h) (by omega);simpa using this) (fun t h ht=>by have:=h2 (t+1) (by simpa using h) (by omega);simpa using this)
  unfold cntA at this ⊢
  rw [List.takeWhile_cons,h0]
  simp [this]
def SrI (s p : Int) (l : List Lv) (lo hi : Nat) : Prop:=(∀ t (h : t<l.length),t<lo→ahead s l[t].1 p=true)∧(∀ t (h : t<l.length),hi≤t→ahead s l[t].1 p=false)
theorem ahead_mono {s p : Int} {l : List Lv} (hr : l.Pairwise (fun a b=>ahead s a.1 b.1=true)) {i j : Nat} (hij : i≤j) (hj : j<l.length) (h : ahead s l[j].1 p=true) : ahead s (l[i]'(by omega)).1 p=true:=by
 by_cases e : i=j
 ·subst e;exact h
 ·exact ahead_trans (List.pairwise_iff_getElem.1 hr i j (by omega) hj (by omega)) h
theorem SrI.lo {s p : Int} {l : List Lv} {lo hi m : Nat} (hr : l.Pairwise (fun a b=>ahead s a.1 b.1=true)) (h : SrI s p l lo hi) (hm : m<l.length) (ha : ahead s l[m].1 p=true) : SrI s p l (m+1) hi :=
 ⟨fun t ht htm=>ahead_mono hr (show t≤m by omega) hm ha,h.2⟩
theorem SrI.hi {s p : Int} {l : List Lv} {lo hi m : Nat} (hr : l.Pairwise (fun a b=>ahead s a.1 b.1=true)) (h : SrI s p l lo hi) (hm : m<l.length) (ha : ahead s l[m].1 p=false) : SrI s p l lo m :=
 ⟨h.1,fun t ht htm=>by
  cases e : ahead s l[t].1 p
  ·rfl
  ·rw [ahead_mono hr htm ht e] at ha;cases ha⟩
theorem put1_is {B : Bs} {s p : Int} {l : List Lv} {p8 p2 p3 i : Nat} {r : Bool} (hi : i<l.length) (hr : Hid ((!ahead s l[i].1 p)=r)) (hm : l.length≤1000000) {w : World} (h : Env B s p l p8 p2 p3 w) :
  Calls Tryz.prog 122 #[.int .i64 i,.pointer (some ⟨p8,0,none⟩),.pointer (some ⟨p2,0,none⟩),.pointer (some ⟨p3,0,none⟩)] w fun e w'=>e=.returned (.bool r)∧Below w.heap.size w w':=by
 rw [← hr.out];exact put1_any B s p l p8 p2 p3 i hi hm w h
theorem search_any (B : Bs) (s p : Int) (l : List Lv) (p8 p2 p3 : Nat) (hm : l.length≤1000000) (w : World) (h : Env B s p l p8 p2 p3 w) (hr : l.Pairwise (fun a b=>ahead s a.1 b.1=true)) :
  Calls Tryz.prog 121 #[.int .i64 (l.length : Nat),.func (.func 122) #[] #[.pointer (some ⟨p8,0,none⟩),.pointer (some ⟨p2,0,none⟩),.pointer (some ⟨p3,0,none⟩)]] w fun e w'=>e=.returned (.int .i64 (cntA s p l : Nat))∧Below w.heap.size w w':=by
 obtain ⟨n,hn⟩ : ∃ n,n=l.length:=⟨_,rfl⟩
 obtain ⟨cnt,hc⟩ : ∃ c,cntA s p l=c:=⟨_,rfl⟩
 have HE:=lH (show ∀ u,Below w.heap.size w u→Env B s p l p8 p2 p3 u from fun u hu=>h.stays hu)
 have HR:=lH hr
 have HML:=lH hm
 rw [← hn] at hm ⊢
 rw [hc]
 have HN:=lH hn
 have HC:=lH hc
 clear h hr hn hc
 go_enter Tryz.func121,Tryz.ntmps121
 go_wp2
 go_loopg [5,6] n (fun kx s5 s6 wr=>∃ (lo hi : Nat),s5=.int .i64 lo∧s6=.int .i64 hi∧lo≤hi∧hi≤n∧hi - lo≤kx∧Below w.heap.size w wr∧SrI s p l lo hi)
 case atStart=>exact ⟨0,n,rfl,rfl,Nat.zero_le _,Nat.le_refl _,by omega,Below.refl _ _,fun t _ ht=>absurd ht (Nat.not_lt_zero _),fun t h1 h2=>by have:=HN.out;omega⟩
 case round =>
  obtain ⟨lo,hi,rfl,rfl,hlh,hin,hg,hb,hI⟩:=hrel
  have I:=lH hI
  clear hI
  by_cases hlt : lo<hi
  ·have hmid : (lo+hi) / 2<l.length:=by rw [← HN.out];omega
   cases hp : ahead s (l[(lo+hi) / 2]'hmid).1 p
   ·have HP : Hid ((!ahead s (l[(lo+hi) / 2]'hmid).1 p)=true):=lH (by rw [hp];rfl)
    have I2:=lH (I.out.hi HR.out hmid hp)
    have hcall:=put1_is hmid HP HML.out (HE.out _ hb)
    rw [show (((lo+hi) / 2 : Nat) : Int)=((lo : Int)+(hi : Int)) / 2 by omega] at hcall
    clear hp
    go_wp2_with fail
    refine hcall.mono ?_
    rintro e w' ⟨rfl,hb1⟩
    clear hcall
    go_wp2
    go_roundg ((lo+hi) / 2 - lo)
    case measure=>omega
    case rel=>exact ⟨lo,(lo+hi) / 2,rfl,by rw [show ((lo : Int)+(hi : Int)) / 2=(((lo+hi) / 2 : Nat) : Int) by omega],by omega,by omega,Nat.le_refl _,nx hb hb1,I2.out⟩
   ·have HP : Hid ((!ahead s (l[(lo+hi) / 2]'hmid).1 p)=false):=lH (by rw [hp];rfl)
    have I2:=lH (I.out.lo HR.out hmid hp)
    have hcall:=put1_is hmid HP HML.out (HE.out _ hb)
    rw [show (((lo+hi) / 2 : Nat) : Int)=((lo : Int)+(hi : Int)) / 2 by omega] at hcall
    clear hp
    go_wp2_with fail
    refine hcall.mono ?_
    rintro e w' ⟨rfl,hb1⟩
    clear hcall
    go_wp2
    go_roundg (hi - ((lo+hi) / 2+1))
    case measure=>omega
    case rel=>exact ⟨(lo+hi) / 2+1,hi,by rw [show ((lo : Int)+(hi : Int)) / 2+1=(((lo+hi) / 2+1 : Nat) : Int) by omega],rfl,by omega,hin,Nat.le_refl _,nx hb hb1,I2.out⟩
  ·obtain rfl : hi=lo:=by omega
   have HZ : Hid (cnt=hi):=lH (by rw [← HC.out];exact cntA_of (by rw [← HN.out];exact hin) I.out.1 I.out.2)
   go_wp2
   go_ret
   exact ⟨ret_int (by rw [HZ.out]),hb⟩
end Go.Proofs.YthecinmekoaphaaGreat.Le
namespace Go.Proofs.YthecinmekoaphaaGreat.Le
open Go.RowKit
open Rw
open Da
open Ro
def insA {α : Type} (i : Nat) (x : α) (l : List α) : List α:=l.take i++[x]++l.drop i
theorem insA_len {α : Type} {i : Nat} {x : α} {l : List α} (h : i≤l.length) : (insA i x l).length=l.length+1:=by
 unfold insA;simp only [List.length_append,List.length_take,List.length_drop,List.length_singleton];omega
theorem insA_get {α : Type} {i : Nat} {x : α} {l : List α} (h : i≤l.length) (j : Nat) : (insA i x l)[j]?=if j<i then l[j]? else if j=i then some x else l[j - 1]?:=by
 unfold insA
 rw [List.append_assoc]
 by_cases h1 : j<i
 ·rw [if_pos h1,List.getElem?_append_left (by rw [List.length_take];omega),List.getElem?_take,if_pos h1]
 ·rw [if_neg h1,List.getElem?_append_right (by rw [List.length_take];omega),List.length_take,Nat.min_eq_left h]
  by_cases h2 : j=i
  ·subst h2;rw [if_pos rfl,Nat.sub_self];rfl
  ·rw [if_neg h2,List.getElem?_append_right (by simp;omega),List.length_singleton,List.getElem?_drop]
   congr 1;omega
theorem putL_at {s : Int} {o : Od} : ∀ {l : List Lv},putL s o l=if h : cntA s (opr o) l<l.length∧(l[cntA s (opr o) l]?.map (·.1))=some (opr o) then l.set (cntA s (opr o) l) (opr o,(l[cntA s (opr o) l]'h.1).2++[o]) else insA (cntA s (opr o) l) (opr o,[o]) l
 | []=>by simp [putL,insA]
 | v :: r=>by
  rw [putL]
  by_cases e1 : v.1=opr o
  ·have h0 : cntA s (opr o) (v :: r)=0:=by unfold cntA;rw [List.takeWhile_cons,e1,ahead_irrefl];rfl
   rw [if_pos e1,dif_pos ⟨by rw [h0];simp,by rw [h0];simp [e1]⟩]
   simp only [h0,List.set_cons_zero,List.getElem_cons_zero,e1]
  ·rw [if_neg e1]
   by_cases e2 : ahead s (opr o) v.1=true
   ·have h0 : cntA s (opr o) (v :: r)=0:=by unfold cntA;rw [List.takeWhile_cons,ahead_asymm e2];rfl
    rw [if_pos e2,dif_neg (by rintro ⟨_,h⟩;rw [h0] at h;simp at h;exact e1 h)]
    simp [h0,insA]
   ·have e3 : ahead s v.1 (opr o)=true:=by
     cases e : ahead s v.1 (opr o)
     ·exact absurd (ahead_tri e (by simpa using e2)) e1
     ·rfl
    have h0 : cntA s (opr o) (v :: r)=cntA s (opr o) r+1:=by unfold cntA;rw [List.takeWhile_cons,e3];simp
    have ih:=putL_at (s:=s) (o:=o) (l:=r)
    rw [if_neg e2]
    by_cases hc : cntA s (opr o) r<r.length∧(r[cntA s (opr o) r]?.map (·.1))=some (opr o)
    ·rw [dif_pos hc] at ih
     rw [dif_pos ⟨by rw [h0];simpa using hc.1,by rw [h0];simpa using hc.2⟩,ih]
     simp only [h0,List.set_cons_succ,List.getElem_cons_succ]
    ·rw [dif_neg hc] at ih
     rw [dif_neg (by rintro ⟨h1,h2⟩;rw [h0] at h1 h2;exact hc ⟨by simpa using h1,by simpa using h2⟩),ih,h0]
     simp [insA]
theorem cntA_le (s p : Int) (l : List Lv) : cntA s p l≤l.length:=by
 unfold cntA;exact (List.takeWhile_prefix _).length_le
theorem putL_ins {s : Int} {o : Od} {l : List Lv} {i : Nat} (hi : cntA s (opr o) l=i) (h : ∀ (hl : i<l.length),l[i].1≠opr o) : putL s o l=insA i (opr o,[o]) l:=by
 subst hi
 rw [putL_at,dif_neg]
 rintro ⟨h1,h2⟩
 rw [List.getElem?_eq_getElem h1] at h2
 simp only [Option.map_some,Option.some.injEq] at h2
 exact h h1 h2
theorem putL_set {s : Int} {o : Od} {l : List Lv} {i : Nat} (hi : cntA s (opr o) l=i) (hl : i<l.length) (he : l[i].1=opr o) : putL s o l=l.set i (opr o,l[i].2++[o]):=by
 subst hi
 rw [putL_at,dif_pos ⟨hl,by rw [List.getElem?_eq_getElem hl];simp [he]⟩]
theorem insA_set {α : Type} {i : Nat} {x y : α} {l : List α} (h : i≤l.length) : (insA i x l).set i y=insA i y l:=by
 unfold insA
 rw [List.append_assoc,List.append_assoc,List.set_append_right _ _ (by rw [List.length_take];omega),List.length_take,Nat.min_eq_left h,Nat.sub_self]
 rfl
theorem Mine.ins {B : Bs} {Bo : Nat} {l : List Lv} {hs : List Hw} {w : World} (h : Mine B Bo l hs w) {i : Nat} (hi : i≤l.length) (p : Int) : Mine B Bo (insA i (p,[]) l) (insA i (p,none,0,0) hs) w:=by
 have hl:=h.len
 refine ⟨by rw [insA_len hi,insA_len (by omega),hl],fun j x y hx hy=>?_,fun j k y z g hjk hy hz hyg hzg=>?_⟩
 ·rw [insA_get hi] at hx
  rw [insA_get (by omega)] at hy
  by_cases h1 : j<i
  ·rw [if_pos h1] at hx hy;exact h.own j x y hx hy
  ·rw [if_neg h1] at hx hy
   by_cases h2 : j=i
   ·rw [if_pos h2] at hx hy
    obtain rfl:=Option.some.inj hx
    obtain rfl:=Option.some.inj hy
    exact ⟨rfl,Own.nil _ _ _⟩
   ·rw [if_neg h2] at hx hy;exact h.own _ x y hx hy
 ·rw [insA_get (by omega)] at hy hz
  have hno : ∀ {q : Hw} {n : Nat},(if n<i then hs[n]? else if n=i then some (p,none,0,0) else hs[n - 1]?)=some q→(hv q).ownBlock=some g→n≠i∧hs[if n<i then n else n - 1]?=some q:=by
   intro q n hq hg
   by_cases h1 : n<i
   ·rw [if_pos h1] at hq ⊢;exact ⟨by omega,hq⟩
   ·rw [if_neg h1] at hq ⊢
    by_cases h2 : n=i
    ·rw [if_pos h2] at hq
     obtain rfl:=Option.some.inj hq
     cases hg
    ·rw [if_neg h2] at hq;exact ⟨h2,hq⟩
  obtain ⟨n1,a1⟩:=hno hy hyg
  obtain ⟨n2,a2⟩:=hno hz hzg
  refine h.apart _ _ y z g ?_ a1 a2 hyg hzg
  split<;>split<;>omega
theorem appAt {B : Bs} {Bo G C : Nat} {L : List Lv} {ys : List Hw} {W : World} (hB : B.le Bo) (hBo : Bo≤W.heap.size) (hG : Bo≤G) (hrow : RowF G C ys W) (hM : Mine B Bo L ys W) {i : Nat} {x : Lv} {y : Hw} (hx : L[i]?=some x) (hy : ys[i]?=some y) (hm : x.2.length≤1000000) (o : Od) :
  ∃ a' n' c' w6,appRun Tryz.prog 64 64 (hv y) (.slice (some ⟨W.heap.size,0,none⟩) 1 1) (W.alloc (.cells #[.int .i64 o.1,.int .i64 o.2.1,.int .i64 o.2.2.1,.int .i64 o.2.2.2.1,.int .i64 o.2.2.2.2] 70)).drew=.ok (.slice a' n' c') w6∧Below Bo W w6∧G<w6.heap.size ∧
   (w6.cell? ⟨G,i*2+1,none⟩=some (hv y)∧w6.frozen? ⟨G,i*2+1,none⟩=false) ∧
   LvS B (L.set i (x.1,x.2++[o])) (ys.set i (y.1,a',n',c')) (w6.setCell ⟨G,i*2+1,none⟩ (.slice a' n' c'))∧RowF G C (ys.set i (y.1,a',n',c')) (w6.setCell ⟨G,i*2+1,none⟩ (.slice a' n' c')):=by
 have hb1 : Below W.heap.size W (W.alloc (.cells #[.int .i64 o.1,.int .i64 o.2.1,.int .i64 o.2.2.1,.int .i64 o.2.2.2.1,.int .i64 o.2.2.2.2] 70)).drew:=(below1 W _).drew
 have hz1 : (W.alloc (.cells #[.int .i64 o.1,.int .i64 o.2.1,.int .i64 o.2.2.1,.int .i64 o.2.2.2.1,.int .i64 o.2.2.2.2] 70)).drew.heap.size=W.heap.size+1:=by simp
 have hM1:=hM.stays hb1
 have hr1:=hrow.stays hb1
 have hsrc : Is eO 70 B [o] (.slice (some ⟨W.heap.size,0,none⟩) 1 1) (W.alloc (.cells #[.int .i64 o.1,.int .i64 o.2.1,.int .i64 o.2.2.1,.int .i64 o.2.2.2.1,.int .i64 o.2.2.2.2] 70)).drew :=
  Is.stays eO 70 (Is.one (e:=eO) (x:=o) (cs:=cellsO o) (hB.mono hBo) rfl) (Below.refl _ _).drew
 obtain ⟨v',w',hrun,hown,hg,hbl,hkp⟩:=Own.append elemO 64 typesO hB (by rw [hz1];omega) (hM1.own i x y hx hy).2 hsrc (by simp only [List.length_singleton];omega) (by omega)
 obtain ⟨a',n',c',rfl⟩ : ∃ a n c,v'=.slice a n c:=by obtain ⟨a,c,h⟩:=(hown.is (by decide) hB).len;exact ⟨a,_,c,h⟩
 have hlow:=hbl _ W (Nat.le_refl _) (hb1.mono hBo)
 have hrow6 : RowF G C ys w':=by
  obtain ⟨cur,hgg,_⟩:=hr1.ex
  exact hr1.block (((hkp [98] (by decide)).block _ _ hgg (.inr ⟨_,_,_,rfl,by simp,fun hx=>by have:=hB.2 _ hx;omega⟩)).trans hgg.symm)
 obtain ⟨_,c1,_,f1⟩:=rowF_at hrow6 hy
 have hset:=hrow6.setCell (i:=i) (j:=1) (x:=y) (y:=(y.1,a',n',c')) (u:=.slice a' n' c') hy (by decide) rfl
 have hgr:=setCell_grown w' G (i*2+1) (.slice a' n' c')
 have hk2 : Keeps B [70] w' (w'.setCell ⟨G,i*2+1,none⟩ (.slice a' n' c')):=hrow6.keeps (by have:=hB.1;omega) (by decide) hgr
 refine ⟨a',n',c',w',hrun,hlow,hrow6.lt,⟨c1,f1⟩,⟨by rw [List.length_set,List.length_set,hM.len],fun j u z hu hz=>?_⟩,hset⟩
 by_cases e : i=j
 ·subst e
  have hil : i<L.length:=(List.getElem?_eq_some_iff.1 hx).1
  have hiy : i<ys.length:=(List.getElem?_eq_some_iff.1 hy).1
  rw [List.getElem?_set_self hil] at hu
  rw [List.getElem?_set_self hiy] at hz
  obtain rfl:=Option.some.inj hu
  obtain rfl:=Option.some.inj hz
  exact ⟨(hM.own i x y hx hy).1,Is.keep eO 70 (hown.is (by decide) hB) hk2⟩
 ·rw [List.getElem?_set_ne e] at hu hz
  obtain ⟨h1,h2⟩:=hM1.own j u z hu hz
  refine ⟨h1,Is.keep eO 70 ((ownO_grown h2 hg fun g hg1 hg2=>?_).is (by decide) hB) hk2⟩
  rcases Nat.lt_or_gt_of_ne e with hi | hi
  ·exact hM.apart i j y z g hi hy hz hg2 hg1
  ·exact hM.apart j i z y g hi hz hy hg1 hg2
theorem rowF_ll {B : Bs} {G C Bo : Nat} {L : List Lv} {ys : List Hw} {w : World} (hB : B.le Bo) (hG : Bo≤G) (hC : C≤maxLen) (h : LvS B L ys w) (hr : RowF G C ys w) : LL B L (.slice (some ⟨G,0,none⟩) ys.length C) w :=
 h.ll ((hr.own (B:=B) hG hC).is (by decide) hB)
theorem row_one (w : World) (p : Int) : RowF w.heap.size 1 [(p,none,0,0)] (w.alloc (.cells #[.int .i64 p,.slice none 0 0] 98)):=by
 refine ⟨⟨[.int .i64 p,.slice none 0 0],heap_alloc_new w _,rfl,fun i x hx j u hu=>?_⟩,by simp⟩
 cases i with
 | zero =>
  simp at hx
  subst hx
  show _=_
  rw [Nat.zero_mul,Nat.zero_add]
  exact hu
 | succ i=>simp at hx
end Go.Proofs.YthecinmekoaphaaGreat.Le
