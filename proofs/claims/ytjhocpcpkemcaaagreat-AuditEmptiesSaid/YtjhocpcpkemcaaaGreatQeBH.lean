/- Package book as it landed: slices.Grow of nothing, slices.Concat of two lists of levels. -/
import Derived.Test.YtjhocpcpkemcaaaGreatQeZZ
import Derived.Test.YtjhocpcpkemcaaaGreatQeBC
import Derived.Test.YtjhocpcpkemcaaaGreatQeBE
import Derived.Test.YtjhocpcpkemcaaaGreatQeAX
import Derived.Test.YtjhocpcpkemcaaaGreatQeBF
import Derived.Test.YtjhocpcpkemcaaaGreatQeBA
import Derived.RegionTactic
import Derived.ChangeAlike
import Derived.BigRegion
import Derived.Laws.EntriesVeiled
import Derived.Test.YtjhocpcpkemcaaaGreatQeBG
set_option linter.unusedVariables false
set_option maxRecDepth 16000
set_option maxHeartbeats 32000000
namespace Go.Proofs.YtjhocpcpkemcaaaGreat.Bk
open Go.RowKit
open Rw
open Da
open Ro
open Le
abbrev OwnLv (B:Bs) (Bo:Nat) (l:List Lv) (v:Value) (w:World):Prop:=Own eL 106 B Bo l v w
theorem own_room {B:Bs} {Bo g c:Nat} {hs:List Hw} {w:World} (h:RowF g c hs w) (hB:Bo≤g) (hc:c≤maxLen):OwnLv B Bo [] (.slice (some ⟨g,0,none⟩) 0 c) w:=by
 have:=(h.take 0).owns hB hc
 rw [List.take_zero] at this
 exact ⟨[],rfl,by simp,this⟩
theorem grow_any (B:Bs) (n:Nat) (hn:n≤4000000) (w:World):Calls Tryz.prog 199 #[.slice none 0 0,.int .i64 n] w (Post (OwnLv B w.heap.size []) w):=by
 by_cases h0:n=0
 ·subst h0
  go_enter Tryz.func199,Tryz.ntmps199
  go_wp2
  go_ret
  exact ⟨_,rfl,Below.refl _ _,Own.nil _ _ _⟩
 ·have h1:(0:Int)<n:=by omega
  obtain ⟨c2,w2,hrun,hr2,hb2,hc2⟩:=growz_nil (e:=fF) (u:=3) (ik:=.i64) elemF Tryz.underlying3 55 zero2 (x0:=((0,none,0,0):Hw)) rfl (w:=w) (m:=n) (by omega) (by omega) (by decide)
  have HO:=lH (own_room (B:=B) hr2 (Nat.le_refl _) hc2)
  have k2:(0:Int)≤c2:=by omega
  clear hr2 hc2 h0
  go_enter Tryz.func199,Tryz.ntmps199
  go_wp2
  go_ret
  exact ⟨_,rfl,hb2,HO.out⟩
theorem concat_any (B:Bs) (l m:List Lv) (x y:Value) (p:Nat) (w:World) (hx:LL B l x w) (hy:LL B m y w) (hp:p<w.heap.size) (c0:w.cell? ⟨p,0,none⟩=some x) (c1:w.cell? ⟨p,1,none⟩=some y) (hB:B.le w.heap.size) (h1:l.length≤1000000) (h2:m.length≤1000000) :
  Calls Tryz.prog 178 #[.slice (some ⟨p,0,none⟩) 2 2] w (Post (LL B (l++m)) w):=by
 obtain ⟨a1,k1,rfl⟩:=hx.len
 obtain ⟨a2,k2,rfl⟩:=hy.len
 obtain ⟨n1,hn1⟩:∃ n,l.length=n:=⟨_,rfl⟩
 obtain ⟨n2,hn2⟩:∃ n,m.length=n:=⟨_,rfl⟩
 rw [hn1] at hx c0 h1
 rw [hn2] at hy c1 h2
 have HX:=lH hx
 have HY:=lH hy
 have HB:=lH hB
 have HN1:=lH hn1
 have HN2:=lH hn2
 clear hx hy hn1 hn2
 go_enter Tryz.func178,Tryz.ntmps178
 go_wp2
 go_loopw [3,11] (fun s i wr=>w=wr∧((i=.int .i64 0∧s=.int .i64 0)∨(i=.int .i64 1∧s=.int .i64 (n1:Nat))∨(i=.int .i64 2∧s=.int .i64 ((n1+n2:Nat):Int)))) (fun _ i _=>2 - (intOf i).toNat)
 case atStart=>exact ⟨rfl,.inl ⟨rfl,rfl⟩⟩
 case round =>
  obtain ⟨rfl,⟨rfl,rfl⟩ | ⟨rfl,rfl⟩ | ⟨rfl,rfl⟩⟩:=hrel
  ·go_wp2
   go_roundw
   case rel=>exact ⟨trivial,.inr (.inl ⟨rfl,by go_num⟩)⟩
   case measure=>simp [intOf]
  ·go_wp2
   go_roundw
   case rel=>exact ⟨trivial,.inr (.inr ⟨rfl,by push_cast;go_num⟩)⟩
   case measure=>simp [intOf]
  ·go_wp2_with fail
   refine (grow_any B (n1+n2) (by omega) _).mono ?_
   rintro e w1 ⟨v1,rfl,hb1,ho1⟩
   have HO1:=lH ho1
   obtain ⟨a3,c3,rfl⟩:=(HO1.out.is (by decide) HB.out).len
   clear ho1
   go_wp2
   go_loopw [6,27] (fun t i wr=>∃ zs,OwnLv B w.heap.size zs t wr∧Below w.heap.size w wr∧((i=.int .i64 0∧[]=zs)∨(i=.int .i64 1∧l=zs)∨(i=.int .i64 2∧l++m=zs))) (fun _ i _=>2 - (intOf i).toNat)
   case atStart=>exact ⟨[],HO1.out,hb1,.inl ⟨rfl,rfl⟩⟩
   case round =>
    obtain ⟨zs,ho9,hb,hcs⟩:=hrel
    obtain ⟨a9,c9,rfl⟩:=(ho9.is (by decide) HB.out).len
    obtain ⟨nz,hnz⟩:∃ n,n=zs.length:=⟨_,rfl⟩
    rw [← hnz] at ho9 ⊢
    have HO9:=lH ho9
    have HNz:=lH hnz
    clear ho9 hnz
    obtain ⟨rfl,rfl⟩ | ⟨rfl,rfl⟩ | ⟨rfl,rfl⟩:=hcs
    ·obtain ⟨v',w',hrun,hown',_,hbl,_⟩:=Own.append elemL 55 typesL HB.out hb.size HO9.out (Is.stays eL 106 HX.out hb) (by simp only [List.length_nil,HN1.out];omega) (by omega)
     have HR:=lH (show OwnLv B w.heap.size l v' w'∧Below w.heap.size w w' from ⟨hown',hbl _ _ (Nat.le_refl _) hb⟩)
     obtain ⟨a8,c8,rfl⟩:=(hown'.is (by decide) HB.out).len
     have d0:=(hb.cell (p:=⟨p,0,none⟩) hp).trans c0
     have hpw:p<wr.heap.size:=Nat.lt_of_lt_of_le hp hb.size
     clear hown' hbl
     go_wp2
     go_roundw
     case rel=>exact ⟨_,HR.out.1,HR.out.2,.inr (.inl ⟨rfl,rfl⟩)⟩
     case measure=>simp [intOf]
    ·obtain ⟨v',w',hrun,hown',_,hbl,_⟩:=Own.append elemL 55 typesL HB.out hb.size HO9.out (Is.stays eL 106 HY.out hb) (by rw [HN1.out,HN2.out];omega) (by omega)
     have HR:=lH (show OwnLv B w.heap.size (l++m) v' w'∧Below w.heap.size w w' from ⟨hown',hbl _ _ (Nat.le_refl _) hb⟩)
     obtain ⟨a8,c8,rfl⟩:=(hown'.is (by decide) HB.out).len
     have d0:=(hb.cell (p:=⟨p,1,none⟩) hp).trans c1
     have hpw:p<wr.heap.size:=Nat.lt_of_lt_of_le hp hb.size
     clear hown' hbl
     go_wp2
     go_roundw
     case rel=>exact ⟨l++m,by rw [← List.length_append];exact HR.out.1,HR.out.2,.inr (.inr ⟨rfl,rfl⟩)⟩
     case measure=>simp [intOf]
    ·have HF:=lH (show LL B (l++m) (.slice a9 nz c9) wr from HO9.out.is (by decide) HB.out)
     go_wp2
     go_ret
     exact ⟨_,rfl,hb,HF.out⟩
end Go.Proofs.YtjhocpcpkemcaaaGreat.Bk
namespace Go.Proofs.YtjhocpcpkemcaaaGreat.Le
open Go.RowKit
open Rw
open Da
theorem find_big (B:Bs) (l:List Lv) (v:Value) (id:Int) (w:World) (h:LL B l v w) (hm:l.length≤1000000) (hf:(flat l).length≤1000000) :
  Calls Tryz.prog 191 #[v,.int .i64 id] w fun e w'=>e=.returned (fV (fnd (flat l) id))∧Below w.heap.size w w':=by
 rcases h.cases with ⟨rfl,a,c,rfl⟩ | ⟨hne,b,off,c,rfl,hat⟩
 ·clear h
  go_enter Tryz.func191,Tryz.ntmps191
  go_wp2
  go_loopw [11] (fun i wr=>i=.int .i64 0∧wr=w.alloc (.cells #[.int .i64 0,.int .i64 0,.int .i64 0,.int .i64 0,.int .i64 0] 74)) (fun i _=>0)
  case atStart=>exact ⟨rfl,rfl⟩
  case round =>
   obtain ⟨rfl,rfl⟩:=hrel
   go_wp2
   exact bodyPost_ret (v:=fV none) (by simp [results,Tryz.results191,go_sem,fV]) rfl ⟨rfl,(below1 _ _)⟩
 ·have hbb:b<w.heap.size:=hat.1
  have HA:=lH hat
  have HF:=lH hf
  obtain ⟨n,hn⟩:∃ n,n=l.length:=⟨_,rfl⟩
  obtain ⟨r,hr⟩:∃ r,fnd (flat l) id=r:=⟨_,rfl⟩
  rw [← hn] at hm ⊢
  rw [hr]
  have HN:=lH hn
  have HR:=lH hr
  clear h hat hn hne hf hr
  go_enter Tryz.func191,Tryz.ntmps191
  go_wp2
  obtain ⟨W,hW⟩:∃ W,W=w.alloc (.cells #[.int .i64 0,.int .i64 0,.int .i64 0,.int .i64 0,.int .i64 0] 74):=⟨_,rfl⟩
  have hbW:Below w.heap.size w W:=hW ▸ below1 w _
  have hz:w.heap.size<W.heap.size:=by rw [hW];simp
  have hbz:b<W.heap.size:=by omega
  have hpz:plain 5 W w.heap.size=true:=by rw [hW];simp [go_sem]
  have HW:=lH (Lies.keep eL 106 HA.out (Keeps.of_below hbW))
  rw [← hW]
  clear hW HA
  have HPz:=lH hpz
  clear hpz
  go_loopw [8,11] (fun _ i wr=>∃ k:Nat,k≤n∧i=.int .i64 k∧Below W.heap.size W wr∧fnd (flat (l.drop k)) id=r) (fun _ i _=>n - (intOf i).toNat)
  case atStart=>exact ⟨0,Nat.zero_le _,rfl,Below.refl _ _,HR.out⟩
  case round =>
   obtain ⟨wo,rfl⟩:∃ wo:World,wo=wr:=⟨_,rfl⟩
   obtain ⟨k,hk,rfl,hb,hrest⟩:=hrel
   have HT:=lH hrest
   clear hrest
   by_cases hlt:k<n
   ·have hlt2:(k:Int)<n:=by omega
    have hkl:k<l.length:=by rw [← HN.out];exact hlt
    obtain ⟨x,q0,q1,hx⟩:=atL HW.out k hkl
    have hx2:=Is.stays eO 74 hx hb
    obtain ⟨c1,f1,r1,p1⟩:=bcell hb
    have hfl:=flat_drop hkl
    obtain ⟨⟨pr,os⟩,hlk⟩:∃ y,l[k]=y:=⟨_,rfl⟩
    rw [hlk] at q0 hx2 hfl
    simp only at q0 hx2 hfl
    have hos:os.length≤1000000:=by
     have h1:=flat_take_le l (k+1)
     have h2:=count_take hkl
     rw [hlk] at h2
     simp only at h2
     have:=HF.out
     omega
    have HFl:Hid (fnd (os++flat (l.drop (k+1))) id=r):=lH (by rw [← hfl];exact HT.out)
    clear hfl hlk hx
    have HX:=lH (Is.stays eO 74 hx2 (below1 wo (.cells #[.int .i64 pr,x] 106)))
    obtain ⟨a2,c2,rfl,hel⟩:=hx2
    have HE:=lH hel
    clear hel
    obtain ⟨V,hV⟩:∃ V,V=wo.alloc (.cells #[.int .i64 pr,.slice a2 os.length c2] 106):=⟨_,rfl⟩
    have hbV:Below wo.heap.size wo V:=hV ▸ below1 wo _
    have hzV:wo.heap.size<V.heap.size:=by rw [hV];simp
    have hF:∀ u,Below V.heap.size V u→u.cell? ⟨wo.heap.size,1,none⟩=some (.slice a2 os.length c2)∧wo.heap.size<u.heap.size:=fun u hu=>by
     refine ⟨?_,Nat.lt_of_lt_of_le hzV hu.size⟩
     rw [hu.cell (p:=⟨wo.heap.size,1,none⟩) hzV,hV];simp [go_sem]
    have HFv:=lH hF
    have HV:=lH hV
    clear hF hV
    obtain ⟨q,hq⟩:∃ q,ixD id os 0=q:=⟨_,rfl⟩
    have HQ:=lH hq
    clear hq
    rcases ixD_spec id os 0 with ⟨e1,e2⟩ | ⟨j,hj,e1,e2,e3⟩
    ·have HZ:Hid (fnd (flat (l.drop (k+1))) id=r):=lH (by rw [← HFl.out,fnd_none_app e2])
     rw [HQ.out] at e1
     subst e1
     clear e2
     go_wp2_with fail
     refine (indexOf_is HQ HX.out hos).mono ?_
     rintro e w' ⟨rfl,hb1⟩
     rw [← HV.out] at hb1
     go_wp2
     go_roundw
     case rel=>exact ⟨k+1,by omega,by go_num,nx hb (nx hbV hb1),HZ.out⟩
     case measure=>simp [intOf];omega
    ·have HZ:Hid (r=some os[j]):=lH (by rw [← HFl.out,fnd_at_app hj e2 e3])
     rw [HQ.out,Nat.zero_add] at e1
     subst e1
     clear e2 e3
     rcases HE.out with ⟨e,_⟩ | ⟨b2,off2,rfl,hat2⟩
     ·rw [e] at hj;cases hj
     ·have hc5:=at5 hat2 j hj
      have hb2:=hat2.1
      have HJ:=lH hj
      have hj2:(j:Int)<os.length:=by omega
      obtain ⟨⟨o1,o2,o3,o4,o5⟩,ho⟩:∃ o,os[j]'hj=o:=⟨_,rfl⟩
      rw [ho] at hc5
      have HZ2:Hid (r=some (o1,o2,o3,o4,o5)):=lH (by rw [HZ.out,ho])
      simp only at hc5
      have HC:=lH hc5
      clear ho hat2 hc5
      go_wp2_with fail
      refine (indexOf_is HQ HX.out hos).mono ?_
      rintro e w' ⟨rfl,hb1⟩
      rw [← HV.out] at hb1
      have hb3:=nx hbV hb1
      have hbw:=nx hb hb3
      obtain ⟨k0,k1⟩:=HFv.out _ hb1
      have hg:∀ o,w'.cell? ⟨b2,o,none⟩=wo.cell? ⟨b2,o,none⟩:=fun o=>hb3.cell (p:=⟨b2,o,none⟩) hb2
      obtain ⟨s0,s1,s2,s3,s4⟩:=HC.out
      rw [← hg] at s0 s1 s2 s3 s4
      have hb2':b2<w'.heap.size:=Nat.lt_of_lt_of_le hb2 hb3.size
      have hz2:w.heap.size<w'.heap.size:=by have:=hbw.size;omega
      have hpi:plain 5 w' w.heap.size=true:=by rw [(bcell hbw).2.2.2 _ _ hz];exact HPz.out
      clear hg
      go_wp2
      refine bodyPost_ret (v:=fV (some (o1,o2,o3,o4,o5))) (ret_O2 Tryz.results191 _ _ rfl ?c1) rfl ⟨by rw [HZ2.out],?c2⟩
      case c1=>exact row_set _ hpi
      case c2=>exact below_setRow (nx hbW hbw) (Nat.le_refl _) _
   ·obtain rfl:k=n:=by omega
    have HZ:Hid (r=none):=lH (by rw [← HT.out,HN.out,List.drop_length];rfl)
    have hz2:w.heap.size<wo.heap.size:=by have:=hb.size;omega
    have hpr:plain 5 wo w.heap.size=true:=by rw [(bcell hb).2.2.2 _ _ hz];exact HPz.out
    go_wp2
    refine bodyPost_ret (v:=fV none) (ret_O2 Tryz.results191 _ _ rfl ?c3) rfl ⟨by rw [HZ.out],?c4⟩
    case c3=>exact row_set _ hpr
    case c4=>exact below_setRow (nx hbW hb) (Nat.le_refl _) _
theorem best_big (B:Bs) (l:List Lv) (v:Value) (w:World) (h:LL B l v w) (hm:l.length≤1000000) (hf:(flat l).length≤1000000) :
  Calls Tryz.prog 115 #[v] w fun e w'=>e=.returned (fV ((flat l).head?))∧Below w.heap.size w w':=by
 rcases h.cases with ⟨rfl,a,c,rfl⟩ | ⟨hne,b,off,c,rfl,hat⟩
 ·clear h
  go_enter Tryz.func115,Tryz.ntmps115
  go_wp2
  go_loopw [8] (fun i wr=>i=.int .i64 0∧wr=w.alloc (.cells #[.int .i64 0,.int .i64 0,.int .i64 0,.int .i64 0,.int .i64 0] 74)) (fun i _=>0)
  case atStart=>exact ⟨rfl,rfl⟩
  case round =>
   obtain ⟨rfl,rfl⟩:=hrel
   go_wp2
   exact bodyPost_ret (v:=fV none) (by simp [results,Tryz.results115,go_sem,fV]) rfl ⟨rfl,(below1 _ _)⟩
 ·have hbb:b<w.heap.size:=hat.1
  have HA:=lH hat
  have HF:=lH hf
  obtain ⟨n,hn⟩:∃ n,n=l.length:=⟨_,rfl⟩
  obtain ⟨r,hr⟩:∃ r,(flat l).head?=r:=⟨_,rfl⟩
  rw [← hn] at hm ⊢
  rw [hr]
  have HN:=lH hn
  have HR:=lH hr
  clear h hat hn hne hf hr
  go_enter Tryz.func115,Tryz.ntmps115
  go_wp2
  obtain ⟨W,hW⟩:∃ W,W=w.alloc (.cells #[.int .i64 0,.int .i64 0,.int .i64 0,.int .i64 0,.int .i64 0] 74):=⟨_,rfl⟩
  have hbW:Below w.heap.size w W:=hW ▸ below1 w _
  have hz:w.heap.size<W.heap.size:=by rw [hW];simp
  have hbz:b<W.heap.size:=by omega
  have hpz:plain 5 W w.heap.size=true:=by rw [hW];simp [go_sem]
  have HW:=lH (Lies.keep eL 106 HA.out (Keeps.of_below hbW))
  rw [← hW]
  clear hW HA
  have HPz:=lH hpz
  clear hpz
  go_loopw [8] (fun i wr=>∃ k:Nat,k≤n∧i=.int .i64 k∧Below W.heap.size W wr∧(flat (l.drop k)).head?=r) (fun i _=>n - (intOf i).toNat)
  case atStart=>exact ⟨0,Nat.zero_le _,rfl,Below.refl _ _,HR.out⟩
  case round =>
   obtain ⟨wo,rfl⟩:∃ wo:World,wo=wr:=⟨_,rfl⟩
   obtain ⟨k,hk,rfl,hb,hrest⟩:=hrel
   have HT:=lH hrest
   clear hrest
   by_cases hlt:k<n
   ·have hlt2:(k:Int)<n:=by omega
    have hkl:k<l.length:=by rw [← HN.out];exact hlt
    obtain ⟨x,q0,q1,hx⟩:=atL HW.out k hkl
    have hx2:=Is.stays eO 74 hx hb
    obtain ⟨c1,f1,r1,p1⟩:=bcell hb
    have hfl:=flat_drop hkl
    obtain ⟨⟨pr,os⟩,hlk⟩:∃ y,l[k]=y:=⟨_,rfl⟩
    rw [hlk] at q0 hx2 hfl
    simp only at q0 hx2 hfl
    have hos:os.length≤1000000:=by
     have h1:=flat_take_le l (k+1)
     have h2:=count_take hkl
     rw [hlk] at h2
     simp only at h2
     have:=HF.out
     omega
    have HFl:Hid ((os++flat (l.drop (k+1))).head?=r):=lH (by rw [← hfl];exact HT.out)
    clear hfl hlk hx
    have HX:=lH (Is.stays eO 74 hx2 (below1 wo (.cells #[.int .i64 pr,x] 106)))
    obtain ⟨a2,c2,rfl,hel⟩:=hx2
    have HE:=lH hel
    clear hel
    obtain ⟨V,hV⟩:∃ V,V=wo.alloc (.cells #[.int .i64 pr,.slice a2 os.length c2] 106):=⟨_,rfl⟩
    have hbV:Below wo.heap.size wo V:=hV ▸ below1 wo _
    have hzV:wo.heap.size<V.heap.size:=by rw [hV];simp
    have hF:∀ u,Below V.heap.size V u→u.cell? ⟨wo.heap.size,1,none⟩=some (.slice a2 os.length c2)∧wo.heap.size<u.heap.size:=fun u hu=>by
     refine ⟨?_,Nat.lt_of_lt_of_le hzV hu.size⟩
     rw [hu.cell (p:=⟨wo.heap.size,1,none⟩) hzV,hV];simp [go_sem]
    have HFv:=lH hF
    have HV:=lH hV
    clear hF hV
    rcases Nat.eq_zero_or_pos os.length with h0 | h0
    ·obtain rfl:os=[]:=List.length_eq_zero_iff.1 h0
     have HZ:Hid ((flat (l.drop (k+1))).head?=r):=lH (by rw [← HFl.out];rfl)
     clear h0
     go_wp2_with fail
     refine (isEmpty_any _ _ _ _ hos _).mono ?_
     rintro e w' ⟨rfl,hb1⟩
     replace hb1:Below V.heap.size V w':=by rw [HV.out];exact hb1
     go_wp2
     go_roundw
     case rel=>exact ⟨k+1,by omega,by go_num,nx hb (nx hbV hb1),HZ.out⟩
     case measure=>simp [intOf];omega
    ·have hd:Hid (decide (os.length=0)=false):=lH (decide_eq_false (by omega))
     have HZ:Hid (r=some (os[0]'h0)):=lH (by rw [← HFl.out];cases os with
      | nil=>cases h0
      | cons o t=>rfl)
     rcases HE.out with ⟨e,_⟩ | ⟨b2,off2,rfl,hat2⟩
     ·rw [e] at h0;cases h0
     ·have hc5:=at5 hat2 0 h0
      have hb2:=hat2.1
      obtain ⟨⟨o1,o2,o3,o4,o5⟩,ho⟩:∃ o,os[0]'h0=o:=⟨_,rfl⟩
      rw [ho,Nat.zero_mul,Nat.add_zero] at hc5
      have HZ2:Hid (r=some (o1,o2,o3,o4,o5)):=lH (by rw [HZ.out,ho])
      simp only at hc5
      have HC:=lH hc5
      clear ho hat2 hc5
      go_wp2_with fail
      refine (isEmpty_any _ _ _ _ hos _).mono ?_
      rintro e w' ⟨rfl,hb1⟩
      rw [hd.out]
      replace hb1:Below V.heap.size V w':=by rw [HV.out];exact hb1
      have hb3:=nx hbV hb1
      have hbw:=nx hb hb3
      obtain ⟨k0,k1⟩:=HFv.out _ hb1
      have hg:∀ o,w'.cell? ⟨b2,o,none⟩=wo.cell? ⟨b2,o,none⟩:=fun o=>hb3.cell (p:=⟨b2,o,none⟩) hb2
      obtain ⟨s0,s1,s2,s3,s4⟩:=HC.out
      rw [← hg] at s0 s1 s2 s3 s4
      have hb2':b2<w'.heap.size:=Nat.lt_of_lt_of_le hb2 hb3.size
      have hz2:w.heap.size<w'.heap.size:=by have:=hbw.size;omega
      have hpi:plain 5 w' w.heap.size=true:=by rw [(bcell hbw).2.2.2 _ _ hz];exact HPz.out
      clear hg
      go_wp2
      refine bodyPost_ret (v:=fV (some (o1,o2,o3,o4,o5))) (ret_O2 Tryz.results115 _ _ rfl ?c1) rfl ⟨by rw [HZ2.out],?c2⟩
      case c1=>exact row_set _ hpi
      case c2=>exact below_setRow (nx hbW hbw) (Nat.le_refl _) _
   ·obtain rfl:k=n:=by omega
    have HZ:Hid (r=none):=lH (by rw [← HT.out,HN.out,List.drop_length];rfl)
    have hz2:w.heap.size<wo.heap.size:=by have:=hb.size;omega
    have hpr:plain 5 wo w.heap.size=true:=by rw [(bcell hb).2.2.2 _ _ hz];exact HPz.out
    go_wp2
    refine bodyPost_ret (v:=fV none) (ret_O2 Tryz.results115 _ _ rfl ?c3) rfl ⟨by rw [HZ.out],?c4⟩
    case c3=>exact row_set _ hpr
    case c4=>exact below_setRow (nx hbW hb) (Nat.le_refl _) _
end Go.Proofs.YtjhocpcpkemcaaaGreat.Le
namespace Go.Proofs.YtjhocpcpkemcaaaGreat.Bk
open Go.RowKit
open Rw
open Da
open Le
theorem new_any (w:World):Calls Tryz.prog 77 #[] w fun e w'=>e=.returned (.agg #[.slice none 0 0,.slice none 0 0,.int .i64 1])∧Below w.heap.size w w':=by
 go_enter Tryz.func77,Tryz.ntmps77
 go_wp2
 refine bodyPost_ret (v:=.agg #[.slice none 0 0,.slice none 0 0,.int .i64 1]) (ret_B1 Tryz.results77 _ _ rfl ?c1) rfl ⟨rfl,below1 _ _⟩
 case c1=>simp [go_sem]
theorem meets_any (o1 o2 o3 o4 o5 r1 r2 r3 r4 r5:Int) (w:World):Calls Tryz.prog 207 #[.agg #[.int .i64 o1,.int .i64 o2,.int .i64 o3,.int .i64 o4,.int .i64 o5],.agg #[.int .i64 r1,.int .i64 r2,.int .i64 r3,.int .i64 r4,.int .i64 r5]] w fun e w'=>e=.returned (.bool (meets o3 o4 r4))∧Below w.heap.size w w':=by
 by_cases h:o3=1
 ·have hd:(o3==1)=true:=by simpa using h
  have H:Hid (meets o3 o4 r4=decide (r4≤o4)):=lH (if_pos h)
  clear h
  go_enter Tryz.func207,Tryz.ntmps207
  go_wp2
  go_ret
  exact ⟨ret_bool H.out.symm,below2 _ _ _⟩
 ·have hd:(o3==1)=false:=by simpa using h
  have H:Hid (meets o3 o4 r4=decide (o4≤r4)):=lH (if_neg h)
  clear h
  go_enter Tryz.func207,Tryz.ntmps207
  go_wp2
  go_ret
  exact ⟨ret_bool H.out.symm,below2 _ _ _⟩
theorem sides_any (p:Nat) (s:Int) (w:World):Calls Tryz.prog 186 #[.pointer (some ⟨p,0,none⟩),.int .i64 s] w fun e w'=>e=.returned (if s=1 then .tuple #[.pointer (some ⟨p,0,none⟩),.pointer (some ⟨p,1,none⟩)] else .tuple #[.pointer (some ⟨p,1,none⟩),.pointer (some ⟨p,0,none⟩)])∧Below w.heap.size w w':=by
 by_cases h:s=1
 ·have hd:(s==1)=true:=by simpa using h
  rw [if_pos h];clear h
  go_enter Tryz.func186,Tryz.ntmps186
  go_wp2
  go_region
  go_wp2
  go_ret2
  exact ⟨rfl,(Below.refl _ _).drew⟩
 ·have hd:(s==1)=false:=by simpa using h
  rw [if_neg h];clear h
  go_enter Tryz.func186,Tryz.ntmps186
  go_wp2
  go_region
  go_wp2
  go_ret2
  exact ⟨rfl,(Below.refl _ _).drew⟩
theorem CF.made {B:Bs} {b:Bk} {x y:Value} {n:Int} {w:World} (hB:B.le w.heap.size) (hx:LL B b.1 x w) (hy:LL B b.2.1 y w) (hn:b.2.2=n):CF B b x y w.heap.size w (w.alloc (.cells #[x,y,.int .i64 n] 57)):=by
 subst hn
 exact ⟨heap_alloc_new w _,hB.1,Is.stays eL 106 hx (below1 w _),Is.stays eL 106 hy (below1 w _),below1 w _⟩
theorem CF.facts {A:Bs} {b:Bk} {x y:Value} {s:Nat} {n:Int} {w V:World} (h:CF A b x y s w V) (hn:b.2.2=n):∀ u,Below V.heap.size V u→u.cell? ⟨s,0,none⟩=some x∧u.cell? ⟨s,1,none⟩=some y∧u.cell? ⟨s,2,none⟩=some (.int .i64 n)∧s<u.heap.size∧Rw.row u s=#[x,y,.int .i64 n]:=fun u hu=>by
 subst hn
 have k:=h.stays hu
 exact ⟨k.cells.1,k.cells.2.1,k.cells.2.2.1,k.lt,k.row⟩
theorem cnt_any (B:Bs) (b:Bk) (v:Value) (w:World) (h:BL B b v w) (hB:B.le w.heap.size) (h1:b.1.length≤1000000) (h2:(flat b.1).length≤1000000) (h3:b.2.1.length≤1000000) (h4:(flat b.2.1).length≤1000000) :
  Calls Tryz.prog 144 #[v] w fun e w'=>e=.returned (.int .i64 (cntB b:Nat))∧Below w.heap.size w w':=by
 obtain ⟨x,y,rfl,hx,hy⟩:=h
 obtain ⟨n,hn⟩:∃ n,b.2.2=n:=⟨_,rfl⟩
 rw [hn]
 obtain ⟨V,hV⟩:∃ V,V=w.alloc (.cells #[x,y,.int .i64 n] 57):=⟨_,rfl⟩
 have hcf:CF B b x y w.heap.size w V:=hV ▸ CF.made hB hx hy hn
 have hbV:Below w.heap.size w V:=hcf.bel
 have HC:=lH (hcf.facts hn)
 obtain ⟨k1,hk1⟩:∃ k,(flat b.1).length=k:=⟨_,rfl⟩
 obtain ⟨k2,hk2⟩:∃ k,(flat b.2.1).length=k:=⟨_,rfl⟩
 have hK1:∀ u,Below V.heap.size V u→Calls Tryz.prog 174 #[x] u fun e w'=>e=.returned (.int .i64 (k1:Nat))∧Below u.heap.size u w':=fun u hu=>by
  rw [← hk1];exact count_big B b.1 _ u (hcf.stays hu).l1 h1 h2
 have hK2:∀ u,Below V.heap.size V u→Calls Tryz.prog 174 #[y] u fun e w'=>e=.returned (.int .i64 (k2:Nat))∧Below u.heap.size u w':=fun u hu=>by
  rw [← hk2];exact count_big B b.2.1 _ u (hcf.stays hu).l2 h3 h4
 have HK1:=lH hK1
 have HK2:=lH hK2
 have HV:=lH hV
 have HZ:Hid ((cntB b:Nat)=k1+k2):=lH (by unfold cntB;rw [hk1,hk2])
 have hk1':k1≤1000000:=by omega
 have hk2':k2≤1000000:=by omega
 obtain ⟨a1,c1,rfl⟩:=hx.len
 obtain ⟨a2,c2,rfl⟩:=hy.len
 clear hx hy hV hn hk1 hk2 hK1 hK2 hcf
 go_enter Tryz.func144,Tryz.ntmps144
 go_wp2
 rw [← HV.out]
 refine Rf.rg [0,1,2,3,4,5,6,7] ?_
 repeat (first | (refine Rf.Steps.sk ?_;simp only [Act.put,sA,sB,sC]) | (refine Rf.Steps.pu (v:=?_) ?_ ?_;rotate_left;(intro w_ hS_;have hk_:=HC.out w_ hS_;go_simp<;>with_reducible rfl);simp only [Act.put,sA,sB,sC]) | (refine Rf.Steps.ca (v:=?_) (f:=?_) (args:=?_) ?_ ?_ ?_;rotate_left 3;(intro w_ hS_;have hk_:=HC.out w_ hS_;go_simp<;>first | with_reducible rfl | (constructor<;>with_reducible rfl));(intro w_ hS_;have hk_:=HC.out w_ hS_;first | (go_at_call 174;(first | with_reducible refine (HK1.out w_ hS_).mono ?_ | with_reducible refine (HK2.out w_ hS_).mono ?_);first | (rintro e w_ ⟨rfl,rfl⟩;refine ⟨?_,Below.refl _ _⟩;with_reducible rfl) | (rintro e w_ ⟨rfl,hb_⟩;refine ⟨?_,hb_⟩;with_reducible rfl)));simp only [Act.put,sA,sB,sC]))
 refine Rf.Steps.nil (by kernel_rfl) ?_
 intro w4 hb6
 go_wp2
 go_ret
 exact ⟨ret_int (by rw [HZ.out,IntKind.wrap_i64];omega),nx hbV hb6⟩
theorem top_any (B:Bs) (b:Bk) (v:Value) (w:World) (h:BL B b v w) (h1:b.1.length≤1000000) (h2:(flat b.1).length≤1000000) (h3:b.2.1.length≤1000000) (h4:(flat b.2.1).length≤1000000) :
  Calls Tryz.prog 75 #[v] w fun e w'=>e=.returned (.tuple #[.int .i64 (bestP b.1),.int .i64 (bestP b.2.1)])∧Below w.heap.size w w':=by
 obtain ⟨x,y,rfl,hx,hy⟩:=h
 rw [bestP_is,bestP_is]
 obtain ⟨q1,hq1⟩:∃ q,(flat b.1).head?=q:=⟨_,rfl⟩
 obtain ⟨q2,hq2⟩:∃ q,(flat b.2.1).head?=q:=⟨_,rfl⟩
 rw [hq1,hq2]
 have HQ1:=lH hq1
 have HQ2:=lH hq2
 obtain ⟨n,hn⟩:∃ n,b.2.2=n:=⟨_,rfl⟩
 rw [hn]
 obtain ⟨V,hV⟩:∃ V,V=w.alloc (.cells #[x,y,.int .i64 n] 57):=⟨_,rfl⟩
 have hbV:Below w.heap.size w V:=hV ▸ below1 w _
 have hzV:w.heap.size<V.heap.size:=by rw [hV];simp
 obtain ⟨a1,c1,rfl⟩:=hx.len
 obtain ⟨a2,c2,rfl⟩:=hy.len
 have HX:=lH (show ∀ u,Below V.heap.size V u→LL B b.1 (.slice a1 b.1.length c1) u∧LL B b.2.1 (.slice a2 b.2.1.length c2) u from fun u hu=>⟨Is.stays eL 106 hx (nx hbV hu),Is.stays eL 106 hy (nx hbV hu)⟩)
 have HC:=lH (show ∀ u,Below V.heap.size V u→u.cell? ⟨w.heap.size,0,none⟩=some (.slice a1 b.1.length c1)∧u.cell? ⟨w.heap.size,1,none⟩=some (.slice a2 b.2.1.length c2)∧w.heap.size<u.heap.size from fun u hu=>by
  refine ⟨?_,?_,Nat.lt_of_lt_of_le hzV hu.size⟩
  ·rw [hu.cell (p:=⟨w.heap.size,0,none⟩) hzV,hV];simp [go_sem]
  ·rw [hu.cell (p:=⟨w.heap.size,1,none⟩) hzV,hV];simp [go_sem])
 have HV:=lH hV
 have hcs1:=cO_size q1
 have h1c1:oneAll (.agg (cO q1))=true:=by cases q1<;>exact one5 _ _ _ _ _
 have hcs2:=cO_size q2
 have h1c2:oneAll (.agg (cO q2))=true:=by cases q2<;>exact one5 _ _ _ _ _
 have ho1:=cO_3 q1
 have ho2:=cO_3 q2
 have ho2':∀ h,(cO q2)[3]'h=.int .i64 (prO q2):=fun h=>by cases q2<;>rfl
 have HB1:=lH h1
 have HB2:=lH h2
 have HB3:=lH h3
 have HB4:=lH h4
 clear hx hy hV hq1 hq2 hn h1 h2 h3 h4
 obtain ⟨m0,m1,mz⟩:=HC.out V (Below.refl _ _)
 go_enter Tryz.func75,Tryz.ntmps75
 go_wp2_with fail
 rw [← HV.out]
 refine (best_big B b.1 _ V (HX.out V (Below.refl _ _)).1 HB1.out HB2.out).mono ?_
 rintro e w1 ⟨rfl,hb1⟩
 rw [HQ1.out,fV_is]
 clear m0 m1 mz
 have hbx:=below1 w1 (.cells (cO q1) 74)
 obtain ⟨X,hX⟩:∃ X,X=w1.alloc (.cells (cO q1) 74):=⟨_,rfl⟩
 have hzX:w1.heap.size<X.heap.size:=by rw [hX];simp
 have hcX:X.cell? ⟨w1.heap.size,3,none⟩=some (.int .i64 (prO q1)):=by rw [hX];simp [go_sem,ho1]
 have hc1:=lH (show ∀ u,Below X.heap.size X u→u.cell? ⟨w1.heap.size,3,none⟩=some (.int .i64 (prO q1))∧w1.heap.size<u.heap.size from fun u hu=>⟨(hu.cell (p:=⟨w1.heap.size,3,none⟩) hzX).trans hcX,Nat.lt_of_lt_of_le hzX hu.size⟩)
 rw [← hX] at hbx
 have HX1:=lH hX
 have hb2:=nx hb1 hbx
 obtain ⟨m0,m1,mz⟩:=HC.out w1 hb1
 clear hX hcX
 go_wp2_with fail
 rw [← HX1.out]
 clear m0 m1 mz
 refine (best_big B b.2.1 _ X (HX.out X hb2).2 HB3.out HB4.out).mono ?_
 rintro e w2 ⟨rfl,hb3⟩
 rw [HQ2.out,fV_is]
 obtain ⟨k0,k1⟩:=hc1.out w2 hb3
 go_wp2
 go_region
 go_wp2
 go_ret2
 exact ⟨rfl,(nx hbV (nx hb2 (nx hb3 (below1 _ _)))).drew⟩
theorem crossed_any (B:Bs) (b:Bk) (v:Value) (w:World) (h:BL B b v w) (hB:B.le w.heap.size) (h1:b.1.length≤1000000) (h2:(flat b.1).length≤1000000) (h3:b.2.1.length≤1000000) (h4:(flat b.2.1).length≤1000000) :
  Calls Tryz.prog 147 #[v] w fun e w'=>e=.returned (.bool (!decide (bestP b.2.1=0)&&decide (bestP b.2.1≤bestP b.1)))∧Below w.heap.size w w':=by
 obtain ⟨x,y,rfl,hx,hy⟩:=h
 obtain ⟨n,hn⟩:∃ n,b.2.2=n:=⟨_,rfl⟩
 rw [hn]
 obtain ⟨V,hV⟩:∃ V,V=w.alloc (.cells #[x,y,.int .i64 n] 57):=⟨_,rfl⟩
 have hcf:CF B b x y w.heap.size w V:=hV ▸ CF.made hB hx hy hn
 have hbV:Below w.heap.size w V:=hcf.bel
 obtain ⟨m0,m1,m2,mz,mr⟩:=hcf.facts hn V (Below.refl _ _)
 have hbl:=hcf.bl
 rw [hn] at hbl
 obtain ⟨p,hp⟩:∃ p,bestP b.1=p:=⟨_,rfl⟩
 obtain ⟨q,hq⟩:∃ q,bestP b.2.1=q:=⟨_,rfl⟩
 have hT:=top_any B b _ V hbl h1 h2 h3 h4
 rw [hp,hq] at hT ⊢
 have HT:=lH hT
 have HV:=lH hV
 obtain ⟨a1,c1,rfl⟩:=hx.len
 obtain ⟨a2,c2,rfl⟩:=hy.len
 clear hx hy hV hn hp hq hT hbl hcf m0 m1 m2
 by_cases hq0:q=0
 ·subst hq0
  go_enter Tryz.func147,Tryz.ntmps147
  go_wp2_with fail
  rw [← HV.out]
  refine HT.out.mono ?_
  rintro e w1 ⟨rfl,hb1⟩
  go_wp2
  go_ret
  exact ⟨ret_bool (by simp),nx hbV hb1⟩
 ·go_enter Tryz.func147,Tryz.ntmps147
  go_wp2_with fail
  rw [← HV.out]
  refine HT.out.mono ?_
  rintro e w1 ⟨rfl,hb1⟩
  go_wp2
  go_ret
  exact ⟨ret_bool (by simp [hq0]),nx hbV hb1⟩
end Go.Proofs.YtjhocpcpkemcaaaGreat.Bk
namespace Go.Proofs.YtjhocpcpkemcaaaGreat.Bk
open Go.RowKit
open Rw
open Da
open Ro
open Le
def idsB (os:List Od) (n:Int):Bool:=decide ((os.map oid).Nodup∧∀ i∈os.map oid,i<n)
def fI:Flat Int:=⟨1,fun x=>[.int .i64 x],fun _=>rfl,fun o u hu=>by simp at hu;subst hu;rfl⟩
theorem elemI:Elem Tryz.prog 186 3 eI.k 8:=elem_of Tryz.underlying186 infoIs rfl (by decide)
theorem typesI:3 ∉ eI.ts:=by decide
theorem ints_own {B:Bs} {Bo:Nat} {zs:List Int} {v:Value} {w:World} (h:Own eI 3 B Bo zs v w) (hn:v≠.slice none 0 0):∃ g cap,v=.slice (some ⟨g,0,none⟩) zs.length cap∧Bo≤g∧zs.length≤cap∧Ints g zs.length (fun j=>zs.getD j 0) w:=by
 rcases Row.ofOwn (e:=fI) (show Own fI.enc 3 B Bo zs v w from h) with ⟨e,_⟩ | ⟨g,cap,h1,h2,h3,h4⟩
 ·exact absurd e hn
 ·refine ⟨g,cap,h1,h2,h4.le,h4.lt,fun j hj=>⟨?_,h4.frozen _⟩⟩
  have:=h4.cell (i:=j) (x:=zs[j]) (List.getElem?_eq_getElem hj) (j:=0) rfl
  rw [show j*fI.k+0=j from Nat.mul_one j] at this
  rw [this];simp [hj]
theorem id_app {B:Bs} {n cg:Nat} {ag:Option Addr} {zs:List Int} {wr:World} (o1 o2 o3 o4 o5:Int) (hBn:B.le n) (hsz:n≤wr.heap.size) (hown:Own eI 3 B n zs (.slice ag zs.length cg) wr) (hgl:zs.length≤10000000) :
  ∃ v8 w8,appRun Tryz.prog 186 186 (.slice ag zs.length cg) (.slice (some ⟨wr.heap.size+1,0,none⟩) 1 1) ((wr.alloc (.cells #[.int .i64 o1,.int .i64 o2,.int .i64 o3,.int .i64 o4,.int .i64 o5] 74)).alloc (.cells #[.int .i64 o1] 3))=.ok v8 w8∧Own eI 3 B n (zs++[o1]) v8 w8∧Below n wr w8∧∀ ts,3 ∉ ts→Keeps B ts wr w8:=by
 obtain ⟨V,hV⟩:∃ V,V=wr.alloc (.cells #[.int .i64 o1,.int .i64 o2,.int .i64 o3,.int .i64 o4,.int .i64 o5] 74):=⟨_,rfl⟩
 have hbV:Below wr.heap.size wr V:=hV ▸ below1 wr _
 have hzV:V.heap.size=wr.heap.size+1:=by rw [hV];simp
 obtain ⟨U,hU⟩:∃ U,U=V.alloc (.cells #[.int .i64 o1] 3):=⟨_,rfl⟩
 have hbU:Below V.heap.size V U:=hU ▸ below1 V _
 have hzU:U.heap.size=V.heap.size+1:=by rw [hU];simp
 have hbUV:=nx hbV hbU
 have hsrc:Is eI 3 B [o1] (.slice (some ⟨V.heap.size,0,none⟩) 1 1) U:=by
  rw [hU];exact Is.one (e:=eI) (T:=3) (B:=B) (x:=o1) (cs:=[.int .i64 o1]) (w:=V) (hBn.mono (by omega)) rfl
 obtain ⟨v8,w8,hrun,hown8,_,hbl,hkp⟩:=Own.append elemI 186 typesI hBn (by omega) (Own.stays hown hbUV) hsrc (by simp only [List.length_singleton];omega) (by omega)
 rw [hzV,hU,hV] at hrun
 exact ⟨v8,w8,hrun,hown8,(hbUV.mono (by omega)).trans (hbl _ U (Nat.le_refl _) (Below.refl _ _)),fun ts ht=>(Keeps.of_below hbUV).trans (hkp ts ht)⟩
theorem sort2_any (g m c:Nat) (zs:List Int) (w:World) (hm:m=zs.length) (h:Ints g m (fun j=>zs.getD j 0) w) (h6:m≤10000000):Calls Tryz.prog 179 #[.slice (some ⟨g,0,none⟩) m c] w (SortPost zs g w):=by
 subst hm
 refine (Any.slices_Sort_int Tryz.sortL g 0 c zs w h.holds h.1 (by omega)).mono ?_
 rintro e w' ⟨rfl,n,os,rfl⟩
 have hl:(zs.mergeSort fun x y=>decide (x≤y)).length=zs.length:=List.length_mergeSort zs
 refine ⟨_,rfl,grown_putRow _ _,ints_putRow os h hl,List.mergeSort_perm zs _,?_,hl⟩
 have:=List.pairwise_mergeSort (le:=fun (x y:Int)=>decide (x≤y)) (fun a b c h1 h2=>by simp at *;omega) (fun a b=>by simp;omega) zs
 exact this.imp (fun h=>by simpa using h)
theorem compact2_any (g m c:Nat) (ss:List Int) (w:World) (hm:m=ss.length) (h:Ints g m (fun j=>ss.getD j 0) w) (hc:m≤c) (h6:m≤10000000):Calls Tryz.prog 180 #[.slice (some ⟨g,0,none⟩) m c] w fun e w'=>e=.returned (.slice (some ⟨g,0,none⟩) (Lib.compact ss).length c)∧w.grownBy w' (some g):=by
 subst hm
 refine (Any.slices_Compact_int Tryz.cmpL g 0 c ss w h.holds (by omega) hc).mono ?_
 rintro e w' ⟨rfl,q,rfl⟩
 have:=grown_putRow (w:=w) (g:=g) (off:=0) (n:=q) (Lib.compact ss++List.replicate (ss.length - (Lib.compact ss).length) 0).toArray #[]
 rw [Go.Sort.grow_empty] at this
 exact ⟨rfl,this⟩
theorem idsB_of {os:List Od} {n:Int} {ss:List Int} {k:Nat} (hp:ss.Perm (os.map oid)) (hs:ss.Pairwise (·≤·)) (hl:ss.length=k+1):idsB os n=(decide (ss.getD k 0<n)&&decide ((Lib.compact ss).length=k+1)):=by
 have h1:=compact_nodup hs
 rw [hl] at h1
 have hk:k<ss.length:=by omega
 have hget:ss.getD k 0=ss[k]:=by simp [hk]
 unfold idsB
 rw [Bool.eq_iff_iff,Bool.and_eq_true,decide_eq_true_iff,decide_eq_true_iff,decide_eq_true_iff,h1,hp.nodup_iff,hget]
 constructor
 ·rintro ⟨a,b⟩
  exact ⟨b _ (hp.mem_iff.1 (List.getElem_mem hk)),a⟩
 ·rintro ⟨a,b⟩
  refine ⟨b,fun i hi=>?_⟩
  obtain ⟨j,hj,rfl⟩:=List.getElem_of_mem (hp.mem_iff.2 hi)
  rcases Nat.lt_or_ge j k with h | h
  ·have:=List.pairwise_iff_getElem.1 hs j k hj hk h
   omega
  ·have e:j=k:=by omega
   subst e;exact a
theorem ids_any (B:Bs) (b:Bk) (v:Value) (w:World) (h:BL B b v w) (hB:B.le w.heap.size) (h1:b.1.length≤1000000) (h2:(flat b.1).length≤500000) (h3:b.2.1.length≤1000000) (h4:(flat b.2.1).length≤500000) (h5:(b.1++b.2.1).length≤1000000) :
  Calls Tryz.prog 146 #[v] w fun e w'=>e=.returned (.bool (idsB (flat b.1++flat b.2.1) b.2.2))∧Below w.heap.size w w':=by
 obtain ⟨x,y,rfl,hx,hy⟩:=h
 obtain ⟨n,hn⟩:∃ n,b.2.2=n:=⟨_,rfl⟩
 rw [hn]
 obtain ⟨a1,c1,rfl⟩:=hx.len
 obtain ⟨a2,c2,rfl⟩:=hy.len
 obtain ⟨n1,hn1⟩:∃ n,b.1.length=n:=⟨_,rfl⟩
 obtain ⟨n2,hn2⟩:∃ n,b.2.1.length=n:=⟨_,rfl⟩
 rw [hn1] at hx ⊢
 rw [hn2] at hy ⊢
 obtain ⟨os,hos⟩:∃ os,flat b.1++flat b.2.1=os:=⟨_,rfl⟩
 rw [hos]
 obtain ⟨s,hs⟩:∃ s,s=w.heap.size:=⟨_,rfl⟩
 have hm2:os.length≤1000000:=by rw [← hos,List.length_append];omega
 obtain ⟨U,hU⟩:∃ U,U=w.alloc (.cells #[.slice a1 n1 c1,.slice a2 n2 c2,.int .i64 n] 57):=⟨_,rfl⟩
 have hbU:Below w.heap.size w U:=hU ▸ below1 w _
 have hzU:U.heap.size=s+1:=by rw [hU,hs];simp
 have hown0:Own eI 3 B (s+1) [] (.slice (some ⟨s+1,0,none⟩) 0 0) (U.alloc (.cells #[] 3)):=by
  have:=Own.made (e:=eI) (T:=3) B U (s+1) (by omega)
  rw [hzU] at this;exact this
 obtain ⟨V,hV⟩:∃ V,V=(U.alloc (.cells #[] 3)).alloc (.cells #[.slice a1 n1 c1,.slice a2 n2 c2] 55):=⟨_,rfl⟩
 have hbV:Below U.heap.size U V:=hV ▸ below2 U _ _
 have hzV:V.heap.size=s+3:=by rw [hV];simp [hzU]
 have hownV:Own eI 3 B (s+1) [] (.slice (some ⟨s+1,0,none⟩) 0 0) V:=hV ▸ hown0.stays (below1 _ _)
 have q0:V.cell? ⟨s+2,0,none⟩=some (.slice a1 n1 c1):=by rw [hV];simp [go_sem,hzU]
 have q1:V.cell? ⟨s+2,1,none⟩=some (.slice a2 n2 c2):=by rw [hV];simp [go_sem,hzU]
 have q2:V.cell? ⟨s,2,none⟩=some (.int .i64 n):=by
  rw [hbV.cell (p:=⟨s,2,none⟩) (by rw [hzU];exact Nat.lt_succ_self s),hU,hs];simp [go_sem]
 have hbw:=nx hbU hbV
 have HO0:=lH hownV
 have HC:=lH (show _∧_ from ⟨q0,q1⟩)
 have HX:=lH (Is.stays eL 106 hx hbw)
 have HY:=lH (Is.stays eL 106 hy hbw)
 have HOs:=lH hos
 have HBV:Hid (B.le V.heap.size):=lH (hB.mono hbw.size)
 have HBs:Hid (B.le (s+1)):=lH (hB.mono (by omega))
 have HU:=lH hU
 have HV:=lH hV
 have HS:=lH hs
 have HQ2:=lH q2
 have HN1:=lH hn1
 have HN2:=lH hn2
 rw [← hs] at hbw ⊢
 clear hx hy hn hU hV hs hown0 hownV q0 q1 q2 hbU hbV hn1 hn2
 go_enter Tryz.func146,Tryz.ntmps146
 go_wp2_with fail
 rw [← HU.out,← HV.out,← HS.out]
 refine (concat_any B b.1 b.2.1 _ _ (s+2) V HX.out HY.out (by omega) HC.out.1 HC.out.2 HBV.out h1 h3).mono ?_
 rintro e w1 ⟨v1,rfl,hb1,hl1⟩
 obtain ⟨a3,c3,rfl⟩:=hl1.len
 obtain ⟨n3,hn3⟩:∃ n,(b.1++b.2.1).length=n:=⟨_,rfl⟩
 rw [hn3] at hl1 ⊢
 have HL1:=lH hl1
 clear hl1 hn3
 have hf3:(flat (b.1++b.2.1)).length≤1000000:=by rw [flat_app,hos];exact hm2
 have HF3:=lH hf3
 clear hf3 hos
 go_wp2_with fail
 refine (ords_big B (b.1++b.2.1) _ w1 HL1.out (HBV.out.mono hb1.size) h5 HF3.out).mono ?_
 rintro e w2 ⟨v2,rfl,hb2,hol⟩
 rw [flat_app,HOs.out] at hol
 obtain ⟨a4,c4,rfl⟩:=hol.len
 obtain ⟨m,hmm⟩:∃ m,m=os.length:=⟨_,rfl⟩
 rw [← hmm] at hm2 hol ⊢
 have HM:=lH hmm
 have HE:=lH hol
 have HO2:=lH ((HO0.out.stays hb1).stays hb2)
 have hbw2:Below s w w2:=hbw.trans ((nx hb1 hb2).mono (by omega))
 have hz2:s+3≤w2.heap.size:=by have:=hb1.size;have:=hb2.size;omega
 have HQ:=lH (((nx hb1 hb2).cell (p:=⟨s,2,none⟩) (by rw [hzV];show s<s+3;omega)).trans HQ2.out)
 clear hmm hol hb1 hbw h1 h2 h3 h4 h5
 go_wp2
 go_loopw [3,16] (fun t i wr=>∃ k:Nat,k≤m∧i=.int .i64 k∧Below (s+1) w2 wr∧OL B os (.slice a4 m c4) wr∧∃ g c,t=.slice (some ⟨g,0,none⟩) k c∧Own eI 3 B (s+1) ((os.map oid).take k) t wr) (fun _ i _=>m - (intOf i).toNat)
 case atStart=>exact ⟨0,Nat.zero_le _,rfl,Below.refl _ _,HE.out,s+1,0,rfl,HO2.out⟩
 case round =>
  obtain ⟨k,hk,rfl,hb,hol,g,c,rfl,hown⟩:=hrel
  have HOw:=lH hown
  have HBw:=lH hb
  have HOL:=lH hol
  have hszw:s+1≤wr.heap.size:=by have:=hb.size;omega
  clear hown hb hol
  by_cases hkm:k<m
  ·have hkm2:(k:Int)<m:=by omega
   have hko:k<os.length:=by rw [← HM.out];exact hkm
   obtain ⟨aa,ca,ee,hel⟩:=HOL.out
   rw [← HM.out] at ee
   simp only [Value.slice.injEq] at ee
   obtain ⟨rfl,_,rfl⟩:=ee
   rcases hel with ⟨e,_⟩ | ⟨b2,off2,rfl,hat2⟩
   ·rw [e] at hko;cases hko
   have hc5:=at5 hat2 k hko
   have hbb:=hat2.1
   have hsn:(os.map oid).take (k+1)=(os.map oid).take k++[os[k].1]:=by
    rw [Da.take_snoc (by rw [List.length_map];exact hko),List.getElem_map];rfl
   have hlt:((os.map oid).take k).length=k:=by rw [List.length_take,List.length_map];omega
   obtain ⟨⟨o1,o2,o3,o4,o5⟩,ho⟩:∃ o,os[k]=o:=⟨_,rfl⟩
   rw [ho] at hc5 hsn
   simp only at hc5 hsn
   obtain ⟨s0,s1,s2,s3,s4⟩:=hc5
   obtain ⟨v8,w8,hrun,hown8,hb8,hk8⟩:=id_app (zs:=(os.map oid).take k) (ag:=some ⟨g,0,none⟩) (cg:=c) o1 o2 o3 o4 o5 HBs.out hszw (by rw [hlt];exact HOw.out) (by omega)
   rw [hlt] at hrun
   rw [← hsn] at hown8
   have hn8:((os.map oid).take (k+1)).length=k+1:=by rw [List.length_take,List.length_map];omega
   obtain ⟨g8,c8,rfl,_⟩:=ints_own hown8 (fun e=>by
    have:=(hown8.is (by decide) HBs.out).len
    obtain ⟨a,c,e2⟩:=this
    rw [e,hn8] at e2
    simp at e2)
   rw [hn8] at hrun hown8
   have HRel:=lH (show Below (s+1) w2 w8∧OL B os (.slice (some ⟨b2,off2,none⟩) m c4) w8∧Own eI 3 B (s+1) ((os.map oid).take (k+1)) (.slice (some ⟨g8,0,none⟩) (k+1) c8) w8 from ⟨HBw.out.trans hb8,Is.keep eO 74 HOL.out (hk8 _ (by decide)),hown8⟩)
   clear hat2 ho hsn hlt hown8 hb8 hk8 hn8
   go_wp2
   go_roundw
   case rel=>exact ⟨k+1,by omega,by go_num,HRel.out.1,HRel.out.2.1,g8,c8,rfl,HRel.out.2.2⟩
   case measure=>simp [intOf];omega
  ·obtain rfl:k=m:=by omega
   have htk:(os.map oid).take k=os.map oid:=List.take_of_length_le (by rw [List.length_map,← HM.out];exact Nat.le_refl _)
   have hlm:(os.map oid).length=k:=by rw [List.length_map];exact HM.out.symm
   have hown:=HOw.out
   rw [htk] at hown
   obtain ⟨g',c',e,hg1,hgc,hint⟩:=ints_own hown (by simp)
   rw [hlm] at e hgc hint
   simp only [Value.slice.injEq,Option.some.injEq,Addr.mk.injEq,and_true,true_and] at e
   obtain ⟨rfl,rfl⟩:=e
   have HI:=lH hint
   have HLm:=lH hlm.symm
   have hbw3:Below s w wr:=hbw2.trans (HBw.out.mono (Nat.le_succ s))
   have hq3:wr.cell? ⟨s,2,none⟩=some (.int .i64 n):=(HBw.out.cell (p:=⟨s,2,none⟩) (Nat.lt_succ_self s)).trans HQ.out
   have hsz3:s<wr.heap.size:=by omega
   clear hown htk hlm hint hkm hbw2
   go_wp2_with fail
   refine (sort2_any g k c _ wr HLm.out HI.out (by omega)).mono ?_
   rintro e w4 ⟨ss,rfl,hg4,hi4,hp,hsd,hsl⟩
   have hq4:w4.cell? ⟨s,2,none⟩=some (.int .i64 n):=(grown_cell hg4 hsz3 (by simp;omega)).trans hq3
   have hb4:Below s w w4:=hbw3.grown hg4 (by omega) (fun k hk=>by injection hk with e;omega)
   rw [← HLm.out] at hi4 hsl
   clear hq3
   have hF:∀ u,w4.grownBy u (some g)→u.cell? ⟨s,2,none⟩=some (.int .i64 n):=fun u hu=>(grown_cell hu (by have:=hg4.size;omega) (by simp;omega)).trans hq4
   have hs4:s≤w4.heap.size:=by have:=hg4.size;omega
   rcases k with _ | k
   ·have HZ:Hid (idsB os n=true):=lH (by
     have:os=[]:=List.eq_nil_of_length_eq_zero HM.out.symm
     subst this;simp [idsB])
    go_wp2
    refine Rf.rg [0,1,2,3,4,5,6,7,8,9,10,11,12,13,14,15,16,17,18,19] ?_
    repeat (first | (refine Rf.Steps.sk ?_;simp only [Act.put,sA,sB,sC]) | (refine Rf.Steps.pu (v:=?_) ?_ ?_;rotate_left;(intro w_ hS_;skip;go_simp<;>with_reducible rfl);simp only [Act.put,sA,sB,sC]))
    refine Rf.Steps.nil (by kernel_rfl) ?_
    intro w5 hb5
    go_wp2
    go_ret
    exact ⟨ret_bool HZ.out.symm,hb4.trans (hb5.mono hs4)⟩
   ·obtain ⟨last,hlast⟩:∃ x,ss.getD k 0=x:=⟨_,rfl⟩
    have hz:=idsB_of (n:=n) hp hsd hsl
    rw [hlast] at hz
    have HZ:=lH hz
    have HC4:=lH (show ∀ u,Below w4.heap.size w4 u→u.cell? ⟨g,k,none⟩=some (.int .i64 last) from fun u hu=>by
     rw [← hlast];exact ((hi4.stays hu).2 k (Nat.lt_succ_self k)).1)
    have HI4:=lH hi4
    have HSl:=lH hsl
    have hkc:(k:Int)<(k:Int)+1:=by omega
    have hd0:((k:Int)+1==0)=false:=by simp;omega
    have hwk:IntKind.i64.wrap (k:Int)=(k:Int):=by rw [IntKind.wrap_i64];omega
    have hk0:(0:Int)≤(k:Int):=by omega
    clear hz hi4 hsl hp hsd hlast hq4 hg4
    by_cases hln:last<n
    ·have HZ2:Hid (idsB os n=decide ((Lib.compact ss).length=k+1)):=lH (by rw [HZ.out,decide_eq_true hln,Bool.true_and])
     go_wp2
     refine Rh.rg (fun u=>w4.grownBy u (some g)) (fun u=>Below w4.heap.size w4 u) (fun _ _ h k=>grown_stays _ _ _ _ h k) (fun _ _ h k=>nx h k) (grown_drew w4 _) ((Below.refl _ _).drew) [0,1,2,8,9,3,4,5,6,7,10,11,12,15,13,14,16,17,18,19] ?_
     repeat (first | (refine Rh.Steps.sk ?_;simp only [Act.put,sA,sB,sC]) | (refine Rh.Steps.pu (v:=?_) ?_ ?_;rotate_left;(intro w_ hS_;have hk_:=hF w_ hS_;go_simp<;>with_reducible rfl);simp only [Act.put,sA,sB,sC]))
     refine Rh.Steps.forced (i:=7) (by kernel_rfl) ?_
     refine Rh.One.val (fun v u=>v=.int .i64 last) (fun _ _ _ h _=>h) (by rfl) (by rfl) ?_ ?_
     ·intro w_ hS_ hG_
      have hc:=HC4.out w_ hG_
      refine ⟨_,w_,?_,Below.refl _ _,rfl⟩
      go_simp
     rintro v7 u7 rfl
     simp only [Act.put,sA,sB,sC]
     repeat (first | (refine Rh.Steps.sk ?_;simp only [Act.put,sA,sB,sC]) | (refine Rh.Steps.pu (v:=?_) ?_ ?_;rotate_left;(intro w_ hS_;have hk_:=hF w_ hS_;go_simp<;>with_reducible rfl);simp only [Act.put,sA,sB,sC]))
     refine Rh.Steps.forced (i:=13) (by kernel_rfl) ?_
     refine Rh.One.callw (fun v u=>v=.slice (some ⟨g,0,none⟩) (Lib.compact ss).length c∧Below s w u∧s≤u.heap.size) (fun v _ _ h k=>⟨h.1,h.2.1.trans (k.mono h.2.2),Nat.le_trans h.2.2 k.size⟩) (f:=?_) (args:=?_) (by rfl) (by rfl) ?_ ?_ ?_
     rotate_left 2
     ·intro w_ hS_ hG_;go_simp<;>first | with_reducible rfl | (constructor<;>with_reducible rfl)
     ·intro w_ hS_ hG_
      go_at_call 180
      refine (compact2_any g (k+1) c ss w_ HSl.out.symm (HI4.out.stays hG_.1) hgc (by omega)).mono ?_
      rintro e w' ⟨rfl,hg'⟩
      exact ⟨_,rfl,grown_trans hS_ hg',rfl,(hb4.trans (hG_.1.mono hs4)).grown hg' (by have:=hb4.size;have:=hG_.1.size;omega) (fun k hk=>by injection hk with e;omega),by have:=hG_.1.size;have:=hg'.size;omega⟩
     rintro v13 u13 ⟨rfl,hv13⟩
     simp only [Act.put,sA,sB,sC]
     repeat (first | (refine Rh.Steps.sk ?_;simp only [Act.put,sA,sB,sC]) | (refine Rh.Steps.pu (v:=?_) ?_ ?_;rotate_left;(intro w_ hS_;have hk_:=hF w_ hS_;go_simp<;>with_reducible rfl);simp only [Act.put,sA,sB,sC]))
     refine Rh.Steps.nil (by kernel_rfl) ?_
     rintro w5 _ ⟨_,hb5,_⟩
     go_wp2
     go_ret
     exact ⟨ret_bool (by rw [HZ2.out,Bool.eq_iff_iff];simp;omega),hb5⟩
    ·have HZ2:Hid (idsB os n=false):=lH (by rw [HZ.out,decide_eq_false hln,Bool.false_and])
     have fL:decide (last<n)=false:=decide_eq_false hln
     go_wp2
     refine Rh.rg (fun u=>w4.grownBy u (some g)) (fun u=>Below w4.heap.size w4 u) (fun _ _ h k=>grown_stays _ _ _ _ h k) (fun _ _ h k=>nx h k) (grown_drew w4 _) ((Below.refl _ _).drew) [0,1,2,8,9,3,4,5,6,7,10,11,12,15,13,14,16,17,18,19] ?_
     repeat (first | (refine Rh.Steps.sk ?_;simp only [Act.put,sA,sB,sC]) | (refine Rh.Steps.pu (v:=?_) ?_ ?_;rotate_left;(intro w_ hS_;have hk_:=hF w_ hS_;go_simp<;>with_reducible rfl);simp only [Act.put,sA,sB,sC]))
     refine Rh.Steps.forced (i:=7) (by kernel_rfl) ?_
     refine Rh.One.val (fun v u=>v=.int .i64 last) (fun _ _ _ h _=>h) (by rfl) (by rfl) ?_ ?_
     ·intro w_ hS_ hG_
      have hc:=HC4.out w_ hG_
      refine ⟨_,w_,?_,Below.refl _ _,rfl⟩
      go_simp
     rintro v7 u7 rfl
     simp only [Act.put,sA,sB,sC]
     repeat (first | (refine Rh.Steps.sk ?_;simp only [Act.put,sA,sB,sC]) | (refine Rh.Steps.pu (v:=?_) ?_ ?_;rotate_left;(intro w_ hS_;have hk_:=hF w_ hS_;go_simp<;>with_reducible rfl);simp only [Act.put,sA,sB,sC]))
     refine Rh.Steps.nil (by kernel_rfl) ?_
     rintro w5 _ hb5
     go_wp2
     go_ret
     exact ⟨ret_bool HZ2.out.symm,hb4.trans (hb5.1.mono hs4)⟩
end Go.Proofs.YtjhocpcpkemcaaaGreat.Bk
namespace Go.Proofs.YtjhocpcpkemcaaaGreat.Le
open Go.RowKit
open Rw
open Da
open Ro
theorem box1 (v:Value) (T:TypeId) (w:World):(w.alloc (.cells #[v] T)).cell? ⟨w.heap.size,0,none⟩=some v:=by simp [go_sem]
theorem put_big (B:Bs) (l:List Lv) (v:Value) (o1 o2 o3 o4 o5:Int) (w:World) (h:LL B l v w) (hB:B.le w.heap.size) (hm:l.length≤100000) (hf:(flat l).length≤100000) :
  Calls Tryz.prog 189 #[v,.agg #[.int .i64 o1,.int .i64 o2,.int .i64 o3,.int .i64 o4,.int .i64 o5]] w (PostP B l (o1,o2,o3,o4,o5) w):=by
 obtain ⟨q,hq⟩:∃ q,fnd (flat l) o1=q:=⟨_,rfl⟩
 obtain ⟨rr,hrr⟩:∃ r,rightL o3 l=r:=⟨_,rfl⟩
 obtain ⟨mm,hmm⟩:∃ r,omay (o1,o2,o3,o4,o5) o3=r:=⟨_,rfl⟩
 have HQ:=lH hq
 have HR:=lH hrr
 have HM:=lH hmm
 obtain ⟨a1,c1,rfl,h1⟩:=id h
 have hcs:=cO_size q
 have h1c:oneAll (.agg (cO q))=true:=by cases q<;>exact one5 _ _ _ _ _
 obtain ⟨n,hn⟩:∃ n,n=l.length:=⟨_,rfl⟩
 obtain ⟨V,hV⟩:∃ V,V=(w.alloc (.cells #[.slice a1 n c1] 55)).alloc (.cells #[.int .i64 o1,.int .i64 o2,.int .i64 o3,.int .i64 o4,.int .i64 o5] 74):=⟨_,rfl⟩
 have hbV:Below w.heap.size w V:=hV ▸ below2 w _ _
 have hzV:V.heap.size=w.heap.size+2:=by rw [hV];simp
 have hKV:∀ u,Below V.heap.size V u→u.cell? ⟨w.heap.size,0,none⟩=some (.slice a1 n c1)∧u.cell? ⟨w.heap.size+1,0,none⟩=some (.int .i64 o1)∧u.cell? ⟨w.heap.size+1,2,none⟩=some (.int .i64 o3)∧u.cell? ⟨w.heap.size+1,3,none⟩=some (.int .i64 o4)∧row u (w.heap.size+1)=#[.int .i64 o1,.int .i64 o2,.int .i64 o3,.int .i64 o4,.int .i64 o5]∧w.heap.size+1<u.heap.size∧w.heap.size<u.heap.size:=by
  intro u hu
  have hz:=hu.size
  refine ⟨?_,?_,?_,?_,?_,by omega,by omega⟩
  ·rw [hu.cell (p:=⟨w.heap.size,0,none⟩) (by show w.heap.size<_;omega),hV];simp [go_sem]
  ·rw [hu.cell (p:=⟨w.heap.size+1,0,none⟩) (by show w.heap.size+1<_;omega),hV];simp [go_sem]
  ·rw [hu.cell (p:=⟨w.heap.size+1,2,none⟩) (by show w.heap.size+1<_;omega),hV];simp [go_sem]
  ·rw [hu.cell (p:=⟨w.heap.size+1,3,none⟩) (by show w.heap.size+1<_;omega),hV];simp [go_sem]
  ·rw [(bcell hu).2.2.1 (w.heap.size+1) (by omega),hV];simp [go_sem]
 have HK:=lH hKV
 have HLv:=lH (show ∀ u,Below w.heap.size w u→LL B l (.slice a1 l.length c1) u∧B.le u.heap.size from fun u hu=>⟨Is.stays eL 106 h hu,hB.mono hu.size⟩)
 rw [hn] at hV HK
 have HV:=lH hV
 have HN:=lH hn
 have hm6:l.length≤1000000:=by omega
 have hf6:(flat l).length≤1000000:=by omega
 have hcase:(q.isSome=true)∨(q=none∧mm=false)∨(q=none∧mm=true∧rr=false)∨(q=none∧mm=true∧rr=true):=by
  cases q<;>cases mm<;>cases rr<;>simp
 have hend:∀ u,Below w.heap.size w u→putE l (o1,o2,o3,o4,o5)=1→PostP B l (o1,o2,o3,o4,o5) w (.returned (.tuple #[.slice a1 l.length c1,.int .i64 1])) u:=fun u hu he =>
  ⟨_,by rw [he],hu,by unfold put;rw [if_neg (by rw [he];decide)];exact (HLv.out u hu).1⟩
 have HEnd:=lH hend
 clear h hq hrr hmm hV hKV h1 hn hB hend
 go_enter Tryz.func189,Tryz.ntmps189
 go_wp2_with fail
 rw [← HV.out]
 refine (find_big B l _ o1 V (HLv.out V hbV).1 hm6 hf6).mono ?_
 rintro e w1 ⟨rfl,hb1⟩
 rw [fV_is,HQ.out]
 obtain ⟨m0,m1,m2,m3,mr,mz,mz'⟩:=HK.out _ hb1
 rcases hcase with hq1 | ⟨rfl,rfl⟩ | ⟨rfl,rfl,rfl⟩ | ⟨rfl,rfl,rfl⟩
 ·rw [hq1]
  have hE:putE l (o1,o2,o3,o4,o5)=1:=by
   unfold putE
   rw [HQ.out]
   cases q
   ·cases hq1
   ·simp
  have HE:=lH hE
  clear hE hq1
  go_wp2
  go_ret2
  exact HEnd.out _ (nx hbV (nx hb1 (below1 _ _))) HE.out
 ·have hE:putE l (o1,o2,o3,o4,o5)=1:=by
   unfold putE
   simp [HM.out]
  have HE:=lH hE
  clear hE
  go_wp2_with fail
  have hb2:=nx hb1 (below1 w1 (.cells (cO none) 74))
  clear m0 m1 m2 m3 mr mz mz'
  refine (mayRest_is HM _).mono ?_
  rintro e w2 ⟨rfl,hb3⟩
  have hb4:=nx hb2 hb3
  obtain ⟨m0,m1,m2,m3,mr,mz,mz'⟩:=HK.out _ hb4
  go_wp2
  go_ret2
  exact HEnd.out _ (nx hbV hb4) HE.out
 ·have hE:putE l (o1,o2,o3,o4,o5)=1:=by
   unfold putE
   simp [HR.out]
  have HE:=lH hE
  clear hE
  go_wp2_with fail
  have hb2:=nx hb1 (below1 w1 (.cells (cO none) 74))
  clear m0 m1 m2 m3 mr mz mz'
  refine (mayRest_is HM _).mono ?_
  rintro e w2 ⟨rfl,hb3⟩
  have hb4:=nx hb2 hb3
  obtain ⟨m0,m1,m2,m3,mr,mz,mz'⟩:=HK.out _ hb4
  go_wp2_with fail
  clear m0 m1 m2 m3 mr mz mz'
  refine (right_big B l _ o3 w2 (HLv.out _ (nx hbV hb4)).1 (HLv.out _ (nx hbV hb4)).2 hm6 hf6).mono ?_
  rintro e w3 ⟨rfl,hb5⟩
  rw [HR.out]
  have hb6:=nx hb4 hb5
  obtain ⟨m0,m1,m2,m3,mr,mz,mz'⟩:=HK.out _ hb6
  go_wp2
  go_ret2
  exact HEnd.out _ (nx hbV hb6) HE.out
 ·have hrl:RightL o3 l:=rightL_iff.1 HR.out
  have hE:putE l (o1,o2,o3,o4,o5)=0∧put l (o1,o2,o3,o4,o5)=putL o3 (o1,o2,o3,o4,o5) l:=by
   have:putE l (o1,o2,o3,o4,o5)=0:=by unfold putE;rw [HQ.out];simp only;rw [HR.out,HM.out];rfl
   exact ⟨this,by unfold put;rw [if_pos this]⟩
  have HE:=lH hE
  have HRL:=lH hrl
  clear hE hrl
  go_wp2_with fail
  have hb2:=nx hb1 (below1 w1 (.cells (cO none) 74))
  clear m0 m1 m2 m3 mr mz mz'
  refine (mayRest_is HM _).mono ?_
  rintro e w2 ⟨rfl,hb3⟩
  have hb4:=nx hb2 hb3
  obtain ⟨m0,m1,m2,m3,mr,mz,mz'⟩:=HK.out _ hb4
  go_wp2_with fail
  clear m0 m1 m2 m3 mr mz mz'
  refine (right_big B l _ o3 w2 (HLv.out _ (nx hbV hb4)).1 (HLv.out _ (nx hbV hb4)).2 hm6 hf6).mono ?_
  rintro e w3 ⟨rfl,hb5⟩
  rw [HR.out]
  have hb6:=nx hb4 hb5
  clear hb1 hb2 hb3 hb4 hb5
  obtain ⟨m0,m1,m2,m3,mr,mz,mz'⟩:=HK.out _ hb6
  go_wp2_with fail
  refine (aheadOn_any o3 _).mono ?_
  rintro e w4 ⟨f,rfl,hb7,hah⟩
  have hb8:=nx hb6 hb7
  have HAh:=lH hah
  obtain ⟨g0,hf0,_,_⟩:=hah
  subst hf0
  clear m0 m1 m2 m3 mr mz mz'
  obtain ⟨m0,m1,m2,m3,mr,mz,mz'⟩:=HK.out _ hb8
  have hbx:=below1 w4 (.cells #[.func (.func 197) #[] #[.pointer (some ⟨g0,0,none⟩)]] 188)
  have hb9:=nx hb8 hbx
  have henv:Env B o3 o4 l w4.heap.size w.heap.size (w.heap.size+1) (w4.alloc (.cells #[.func (.func 197) #[] #[.pointer (some ⟨g0,0,none⟩)]] 188)):=by
   obtain ⟨k0,k1,k2,k3,kr,kz,kz'⟩:=HK.out _ hb9
   exact ⟨_,_,⟨HAh.out.stays hbx,box1 _ _ _,by simp⟩,⟨(HLv.out _ (nx hbV hb9)).1,k0,kz'⟩,k3,kz⟩
  have HEnv:=lH henv
  clear henv
  go_wp2_with fail
  clear m0 m1 m2 m3 mr mz mz'
  refine (search_any B o3 o4 l w4.heap.size w.heap.size (w.heap.size+1) hm6 _ HEnv.out HRL.out.2.2.1).mono ?_
  rintro e w5 ⟨rfl,hb10⟩
  have hb11:=nx hb9 hb10
  clear hb6 hb7 hb8 hbx hb9 hb10
  obtain ⟨m0,m1,m2,m3,mr,mz,mz'⟩:=HK.out _ hb11
  go_wp2_with fail
  clear m0 m1 m2 m3 mr mz mz'
  refine (cloned_any B l _ w5 (HLv.out _ (nx hbV hb11)).1 (HLv.out _ (nx hbV hb11)).2 hm6 hf6).mono ?_
  rintro e w6 ⟨_,rfl,hb12,g,hs,rfl,hg5,hhl,hrow,hmine⟩
  have hb13:=nx hb11 hb12
  obtain ⟨m0,m1,m2,m3,mr,mz,mz'⟩:=HK.out _ hb13
  obtain ⟨i,hi⟩:∃ i,cntA o3 o4 l=i:=⟨_,rfl⟩
  have hile:i≤l.length:=hi ▸ cntA_le _ _ _
  rw [hi]
  have hway:(∀ (hl:i<l.length),l[i].1≠o4)∨∃ hl:i<l.length,l[i].1=o4:=by
   by_cases hl:i<l.length
   ·by_cases he:l[i].1=o4
    ·exact .inr ⟨hl,he⟩
    ·exact .inl fun _=>he
   ·exact .inl fun h=>absurd h hl
  have HW6:=lH (show ∀ u,Below w6.heap.size w6 u→LL B l (.slice a1 l.length c1) u∧_ from fun u hu=>⟨(HLv.out u (nx hbV (nx hb13 hu))).1,HK.out u (nx hb13 hu)⟩)
  have HRo:=lH hrow
  have HMi:=lH hmine
  have HI:=lH hi
  clear hrow hmine hi m0 m1 m2 m3 mr mz mz'
  rcases hway with hne | ⟨hl,he⟩
  ·have HNe:=lH hne
   have hpl:=putL_ins (o:=(o1,o2,o3,o4,o5)) HI.out hne
   have HPl:=lH hpl
   rcases Nat.lt_or_ge i l.length with hlt | hge
   case' inl =>
    have hn4:=hne hlt
    obtain ⟨hll,m0,m1,m2,m3,mr,mz,mz'⟩:=HW6.out w6 (Below.refl _ _)
    rcases hll.cases with ⟨e,_⟩ | ⟨_,b,off,c,e,hat⟩
    ·rw [e] at hlt;cases hlt
    simp only [Value.slice.injEq] at e
    obtain ⟨rfl,_,rfl⟩:=e
    obtain ⟨x,q0,_,_⟩:=atL hat i hlt
    obtain ⟨pp,hpp⟩:∃ pp,(l[i]'hlt).1=pp:=⟨_,rfl⟩
    rw [hpp] at q0 hn4
    have hbb:=hat.1
    have hd1:((i:Int)==(l.length:Nat))=false:=by simp;omega
    have hd2:(pp != o4)=true:=by simpa using hn4
    have hlt2:(i:Int)<l.length:=by omega
    have hF:∀ u,Below w6.heap.size w6 u→(u.cell? ⟨w.heap.size,0,none⟩=some (.slice (some ⟨b,off,none⟩) l.length c1))∧u.cell? ⟨w.heap.size+1,3,none⟩=some (.int .i64 o4)∧u.cell? ⟨b,off+i*2,none⟩=some (.int .i64 pp):=fun u hu =>
     ⟨(HW6.out u hu).2.1,(HW6.out u hu).2.2.2.2.1,(hu.cell (p:=⟨b,off+i*2,none⟩) hbb).trans q0⟩
    clear hll hat hn4 hpp hne hpl q0 m0 m1 m2 m3 mr mz mz'
    go_wp2
    refine Rf.rg [0,1,2,3,4,5,6,7,8,9,10,11,12,13] ?_
    repeat (first | (refine Rf.Steps.sk ?_;simp only [Act.put,sA,sB,sC]) | (refine Rf.Steps.pu (v:=?_) ?_ ?_;rotate_left;(intro w_ hS_;have hk_:=hF w_ hS_;go_simp<;>with_reducible rfl);simp only [Act.put,sA,sB,sC]))
    refine Rf.Steps.nil (by kernel_rfl) ?_
    intro w7 hb14
   case' inr =>
    have hd1:((i:Int)==(l.length:Nat))=true:=by simp;omega
    have hF:∀ u,Below w6.heap.size w6 u→(u.cell? ⟨w.heap.size,0,none⟩=some (.slice a1 l.length c1))∧u.cell? ⟨w.heap.size+1,3,none⟩=some (.int .i64 o4):=fun u hu =>
     ⟨(HW6.out u hu).2.1,(HW6.out u hu).2.2.2.2.1⟩
    clear hne hpl
    go_wp2
    refine Rf.rg [0,1,2,3,4,5,6,7,8,9,10,11,12,13] ?_
    repeat (first | (refine Rf.Steps.sk ?_;simp only [Act.put,sA,sB,sC]) | (refine Rf.Steps.pu (v:=?_) ?_ ?_;rotate_left;(intro w_ hS_;have hk_:=hF w_ hS_;go_simp<;>with_reducible rfl);simp only [Act.put,sA,sB,sC]))
    refine Rf.Steps.nil (by kernel_rfl) ?_
    intro w7 hb14
   all_goals
    clear hF hd1
    obtain ⟨hll,m0,m1,m2,m3,mr,mz,mz'⟩:=HW6.out w7 hb14
    have hbx:=below1 w7 (.cells #[.int .i64 o4,.slice none 0 0] 106)
    have hrx:=row_one w7 o4
    go_wp2_with fail
    clear m0 m1 m2 m3 mr mz mz' hll
    refine (insert_any g l.length _ w7.heap.size hs (o4,none,0,0) _ ((HRo.out.stays hb14).stays hbx) hhl.symm hile hm6 hrx).mono ?_
    rintro e w8 ⟨g2,c2,rfl,hr8,hg8,hb15,HC2⟩
    replace hr8:RowF g2 c2 (insA i (o4,none,0,0) hs) w8:=hr8
    have hb16:=nx hb13 (nx hb14 (nx hbx hb15))
    have hsz8:w5.heap.size≤w8.heap.size:=Nat.le_trans hb12.size (Nat.le_trans hb14.size (nx hbx hb15).size)
    have hBo:B.le w5.heap.size:=(HLv.out _ (nx hbV hb11)).2
    have hg5:w5.heap.size≤g2:=Nat.le_trans hb12.size (Nat.le_trans hb14.size (Nat.le_trans hbx.size hg8))
    have hM8:=(((HMi.out.stays hb14).stays hbx).stays hb15).ins hile o4
    have hiy:i≤hs.length:=by rw [hhl];exact hile
    have hgx:(insA i ((o4,[]):Lv) l)[i]?=some (o4,[]):=by rw [insA_get hile,if_neg (Nat.lt_irrefl _),if_pos rfl]
    have hgy:(insA i ((o4,none,0,0):Hw) hs)[i]?=some (o4,none,0,0):=by rw [insA_get hiy,if_neg (Nat.lt_irrefl _),if_pos rfl]
    obtain ⟨a',n',c',w9,hrun,hlow,hG9,⟨ce,fe⟩,hlvs,hrow9⟩:=appAt hBo hsz8 hg5 hr8 hM8 hgx hgy (by simp) (o1,o2,o3,o4,o5)
    simp only [hv] at hrun ce
    rw [insA_set hile] at hlvs
    rw [insA_set hiy] at hlvs hrow9
    have hll9:=rowF_ll hBo hg5 HC2.out hlvs hrow9
    rw [insA_len hiy,hhl] at hll9
    have HLL:=lH hll9
    obtain ⟨e0,e1,_,_⟩:=rowF_at hr8 hgy
    simp only [hv] at e1
    have hg2z:=hr8.lt
    have hi1:(i:Int)<l.length+1:=by omega
    have hi1':(i:Int)≤l.length:=by omega
    have hbF:Below w.heap.size w (w9.setCell ⟨g2,i*2+1,none⟩ (.slice a' n' c')):=by
     have h1:Below w.heap.size w w8:=nx hbV hb16
     have h2:Below w.heap.size w w9:=h1.trans (hlow.mono (nx hbV hb11).size)
     exact h2.setCell (Nat.le_trans (nx hbV hb11).size hg5) _
    obtain ⟨hll,m0,m1,m2,m3,mr,mz,mz'⟩:=HW6.out w8 (nx hb14 (nx hbx hb15))
    have HZ:Hid (PostP B l (o1,o2,o3,o4,o5) w (.returned (.tuple #[.slice (some ⟨g2,0,none⟩) (l.length+1) c2,.int .i64 0])) (w9.setCell ⟨g2,i*2+1,none⟩ (.slice a' n' c'))):=lH ⟨_,by rw [HE.out.1],hbF,by rw [HE.out.2,HPl.out];exact HLL.out⟩
    clear hb14 hb15 hbx hrx hr8 hM8 hlvs hrow9 hlow hll hll9 hgx hgy e0
    go_wp2
    go_region
    clear hrun
    go_wp2
    go_ret2
    exact HZ.out
  ·have hpl:=putL_set (o:=(o1,o2,o3,o4,o5)) HI.out hl he
   have HPl:=lH hpl
   obtain ⟨hll,m0,m1,m2,m3,mr,mz,mz'⟩:=HW6.out w6 (Below.refl _ _)
   rcases hll.cases with ⟨e,_⟩ | ⟨_,b,off,c,e,hat⟩
   ·rw [e] at hl;cases hl
   simp only [Value.slice.injEq] at e
   obtain ⟨rfl,_,rfl⟩:=e
   obtain ⟨x,q0,_,_⟩:=atL hat i hl
   have HEq:=lH he
   rw [he] at q0
   have hbb:=hat.1
   have hd1:((i:Int)==(l.length:Nat))=false:=by simp;omega
   have hlt2:(i:Int)<l.length:=by omega
   have hF:∀ u,Below w6.heap.size w6 u→(u.cell? ⟨w.heap.size,0,none⟩=some (.slice (some ⟨b,off,none⟩) l.length c1))∧u.cell? ⟨w.heap.size+1,3,none⟩=some (.int .i64 o4)∧u.cell? ⟨b,off+i*2,none⟩=some (.int .i64 o4):=fun u hu =>
    ⟨(HW6.out u hu).2.1,(HW6.out u hu).2.2.2.2.1,(hu.cell (p:=⟨b,off+i*2,none⟩) hbb).trans q0⟩
   clear hll hat he hpl q0 m0 m1 m2 m3 mr mz mz'
   go_wp2
   refine Rf.rg [0,1,2,3,4,5,6,7,8,9,10,11,12,13] ?_
   repeat (first | (refine Rf.Steps.sk ?_;simp only [Act.put,sA,sB,sC]) | (refine Rf.Steps.pu (v:=?_) ?_ ?_;rotate_left;(intro w_ hS_;have hk_:=hF w_ hS_;go_simp<;>with_reducible rfl);simp only [Act.put,sA,sB,sC]))
   refine Rf.Steps.nil (by kernel_rfl) ?_
   intro w7 hb14
   clear hF
   have hb16:=nx hb13 hb14
   have hsz8:w5.heap.size≤w7.heap.size:=Nat.le_trans hb12.size hb14.size
   have hBo:B.le w5.heap.size:=(HLv.out _ (nx hbV hb11)).2
   have hM8:=HMi.out.stays hb14
   have hr8:=HRo.out.stays hb14
   have hih:i<hs.length:=by rw [hhl];exact hl
   obtain ⟨⟨yp,ya,yn,yc⟩,hy⟩:∃ y,hs[i]'hih=y:=⟨_,rfl⟩
   have hgx:l[i]?=some (l[i]'hl):=List.getElem?_eq_getElem hl
   have hgy:hs[i]?=some (yp,ya,yn,yc):=by rw [← hy];exact List.getElem?_eq_getElem hih
   have hosl:(l[i]'hl).2.length≤1000000:=by
    have h1:=flat_take_le l (i+1)
    rw [flat_take_snoc hl,List.length_append] at h1;omega
   have hyp:=(hM8.own i _ _ hgx hgy).1
   simp only [HEq.out] at hyp
   subst hyp
   obtain ⟨a',n',c',w9,hrun,hlow,hG9,⟨ce,fe⟩,hlvs,hrow9⟩:=appAt hBo hsz8 hg5 hr8 hM8 hgx hgy hosl (o1,o2,o3,yp,o5)
   simp only [hv] at hrun ce
   have hll9:=rowF_ll hBo hg5 (by unfold maxLen;omega) hlvs hrow9
   rw [List.length_set,hhl,HEq.out] at hll9
   have HLL:=lH hll9
   obtain ⟨e0,e1,_,_⟩:=rowF_at hr8 hgy
   simp only [hv] at e1
   have hg2z:=hr8.lt
   have hbF:Below w.heap.size w (w9.setCell ⟨g,i*2+1,none⟩ (.slice a' n' c')):=by
    have h1:Below w.heap.size w w7:=nx hbV hb16
    have h2:Below w.heap.size w w9:=h1.trans (hlow.mono (nx hbV hb11).size)
    exact h2.setCell (Nat.le_trans (nx hbV hb11).size hg5) _
   obtain ⟨hll,m0,m1,m2,m3,mr,mz,mz'⟩:=HW6.out w7 hb14
   have HZ:Hid (PostP B l (o1,o2,o3,yp,o5) w (.returned (.tuple #[.slice (some ⟨g,0,none⟩) l.length l.length,.int .i64 0])) (w9.setCell ⟨g,i*2+1,none⟩ (.slice a' n' c'))):=lH ⟨_,by rw [HE.out.1],hbF,by rw [HE.out.2,HPl.out];exact HLL.out⟩
   clear hb14 hr8 hM8 hlvs hrow9 hlow hll hll9 hgx hgy e0 hy
   go_wp2
   go_region
   clear hrun
   go_wp2
   go_ret2
   exact HZ.out
end Go.Proofs.YtjhocpcpkemcaaaGreat.Le
namespace Go.Proofs.YtjhocpcpkemcaaaGreat.Le
open Go.RowKit
open Rw
open Da
theorem put_any (B:Bs) (l:List Lv) (v:Value) (o1 o2 o3 o4 o5:Int) (w:World) (h:LL B l v w) (hB:B.le w.heap.size) (hm:l.length≤1000) (hf:(flat l).length≤1000) :
  Calls Tryz.prog 189 #[v,.agg #[.int .i64 o1,.int .i64 o2,.int .i64 o3,.int .i64 o4,.int .i64 o5]] w (PostP B l (o1,o2,o3,o4,o5) w):=put_big B l v o1 o2 o3 o4 o5 w h hB (by omega) (by omega)
theorem right_any (B:Bs) (l:List Lv) (v:Value) (s:Int) (w:World) (h:LL B l v w) (hB:B.le w.heap.size) (hm:l.length≤1000) (hf:(flat l).length≤1000) :
  Calls Tryz.prog 145 #[v,.int .i64 s] w fun e w'=>e=.returned (.bool (rightL s l))∧Below w.heap.size w w':=right_big B l v s w h hB (by omega) (by omega)
end Go.Proofs.YtjhocpcpkemcaaaGreat.Le
namespace Go.Proofs.YtjhocpcpkemcaaaGreat.Bk
open Go.RowKit
open Rw
open Da
open Le
theorem bestP_nn {s:Int} {l:List Lv} (h:RightL s l):0≤bestP l:=by
 cases e:(flat l).head? with
 | none=>rw [(best_none e).1];exact Int.le_refl _
 | some x=>obtain ⟨p1,p2,_⟩:=best_some h e;rw [p1];omega
theorem rightB_code {b:Bk} (n1:1≤b.2.2) (n2:b.2.2≤1073741824) (hc:cntB b≤40) (h1:RightL 1 b.1) (h2:RightL 2 b.2.1) :
  rightB b=(idsB (flat b.1++flat b.2.1) b.2.2&&!(!decide (bestP b.2.1=0)&&decide (bestP b.2.1≤bestP b.1))):=by
 cases e:idsB (flat b.1++flat b.2.1) b.2.2
 ·rw [Bool.false_and]
  refine rightB_no fun h=>?_
  have:idsB (flat b.1++flat b.2.1) b.2.2=true:=by
   unfold idsB
   rw [decide_eq_true_iff,List.map_append]
   refine ⟨List.nodup_append.2 ⟨h1.2.2.2,h2.2.2.2,?_⟩,fun i hi=>?_⟩
   ·rintro i hi j hj rfl
    obtain ⟨o,ho,e1⟩:=List.mem_map.1 hi
    obtain ⟨x,hx,e2⟩:=List.mem_map.1 hj
    exact h.apart o ho x hx (e1.trans e2.symm)
   ·rcases List.mem_append.1 hi with hi | hi
    ·obtain ⟨o,ho,rfl⟩:=List.mem_map.1 hi;exact h.ltB o ho
    ·obtain ⟨o,ho,rfl⟩:=List.mem_map.1 hi;exact h.ltS o ho
  rw [e] at this;cases this
 ·unfold idsB at e
  rw [decide_eq_true_iff,List.map_append] at e
  obtain ⟨e1,e2⟩:=e
  have e3:=(List.nodup_append.1 e1).2.2
  rw [rightB_make n1 n2 h1 h2 hc (fun o ho=>⟨fnd_none.2 fun x hx e4=>e3 o.1 (List.mem_map.2 ⟨o,ho,rfl⟩) x.1 (List.mem_map.2 ⟨x,hx,rfl⟩) e4.symm,e2 _ (List.mem_append_left _ (List.mem_map.2 ⟨o,ho,rfl⟩))⟩) (fun o ho=>e2 _ (List.mem_append_right _ (List.mem_map.2 ⟨o,ho,rfl⟩)))]
  have k1:=bestP_nn h1
  have k2:=bestP_nn h2
  rw [Bool.eq_iff_iff]
  simp only [Bool.or_eq_true,Bool.and_eq_true,Bool.not_eq_true',Bool.and_eq_false_iff,Bool.not_eq_false',decide_eq_true_eq,decide_eq_false_iff_not,true_and]
  omega
theorem putE_nil {n ow s p q:Int} (h1:1≤n) (h2:n≤1073741824):putE [] (n,ow,s,p,q)=if argOk ow s p q=true then 0 else 1:=by
 unfold putE
 have e:((rightL s []&&omay (n,ow,s,p,q) s&&(fnd (flat []) n).isNone)=true) ↔ argOk ow s p q=true:=by
  rw [Bool.and_eq_true,Bool.and_eq_true,rightL_iff,omay_iff,argOk_iff]
  simp only
  constructor
  ·rintro ⟨⟨a,b⟩,_⟩;exact ⟨by omega,by omega,a.1,by omega,by omega,by omega,by omega⟩
  ·intro h
   refine ⟨⟨right_nil h.2.2.1,?_⟩,rfl⟩
   refine ⟨by omega,by omega,by omega,by omega,?_,by omega,by omega,by omega,by omega⟩
   first | rfl | trivial
 by_cases c:argOk ow s p q=true
 ·rw [if_pos c,if_pos (e.2 c)]
 ·rw [if_neg c,if_neg (fun x=>c (e.1 x))]
theorem mayCome_any (n ow s p q:Int) (h1:1≤n) (h2:n≤1073741824) (w:World) :
  Calls Tryz.prog 184 #[.agg #[.int .i64 n,.int .i64 ow,.int .i64 s,.int .i64 p,.int .i64 q]] w fun e w'=>e=.returned (.bool (argOk ow s p q))∧Below w.heap.size w w':=by
 have hpe:=putE_nil (ow:=ow) (s:=s) (p:=p) (q:=q) h1 h2
 obtain ⟨E,hE⟩:∃ E,putE [] (n,ow,s,p,q)=E:=⟨_,rfl⟩
 have hr:argOk ow s p q=(E==0):=by
  rw [← hE,hpe];cases argOk ow s p q<;>rfl
 rw [hr]
 have HE:=lH hE
 obtain ⟨V,hV⟩:∃ V,V=w.alloc (.cells #[.int .i64 n,.int .i64 ow,.int .i64 s,.int .i64 p,.int .i64 q] 74):=⟨_,rfl⟩
 have hbV:Below w.heap.size w V:=hV ▸ below1 w _
 have HV:=lH hV
 clear hpe hE hr hV h1 h2
 go_enter Tryz.func184,Tryz.ntmps184
 go_wp2_with fail
 rw [← HV.out]
 refine (put_any (Bs.of V.heap.size) [] _ n ow s p q V (Is.nil _ _ _ _) (Bs.of_le _) (by decide) (by decide)).mono ?_
 rintro e w1 ⟨t,rfl,hb1,hl1⟩
 obtain ⟨a1,c1,rfl⟩:=hl1.len
 obtain ⟨k,hk⟩:∃ k,(put [] (n,ow,s,p,q)).length=k:=⟨_,rfl⟩
 rw [hk]
 rw [show (putE [] (n,ow,s,p,q))=E from HE.out]
 clear hl1 hk
 go_wp2
 go_ret
 exact ⟨rfl,nx hbV hb1⟩
theorem right_anyB (B:Bs) (b:Bk) (v:Value) (w:World) (h:BL B b v w) (hB:B.le w.heap.size) (h1:b.1.length≤1000) (h2:(flat b.1).length≤1000) (h3:b.2.1.length≤1000) (h4:(flat b.2.1).length≤1000) :
  Calls Tryz.prog 118 #[v] w fun e w'=>e=.returned (.bool (rightB b))∧Below w.heap.size w w':=by
 obtain ⟨x,y,rfl,hx,hy⟩:=h
 obtain ⟨n,hn⟩:∃ n,b.2.2=n:=⟨_,rfl⟩
 rw [hn]
 obtain ⟨V,hV⟩:∃ V,V=w.alloc (.cells #[x,y,.int .i64 n] 57):=⟨_,rfl⟩
 have hcf:CF B b x y w.heap.size w V:=hV ▸ CF.made hB hx hy hn
 have hbV:Below w.heap.size w V:=hcf.bel
 have HC:=lH (hcf.facts hn)
 have hBu:∀ u,Below V.heap.size V u→B.le u.heap.size:=fun u hu=>hB.mono (nx hbV hu).size
 obtain ⟨R,hR⟩:∃ R,rightB b=R:=⟨_,rfl⟩
 rw [hR]
 obtain ⟨k,hk⟩:∃ k,cntB b=k:=⟨_,rfl⟩
 obtain ⟨r1,hr1⟩:∃ r,rightL 1 b.1=r:=⟨_,rfl⟩
 obtain ⟨r2,hr2⟩:∃ r,rightL 2 b.2.1=r:=⟨_,rfl⟩
 obtain ⟨r3,hr3⟩:∃ r,idsB (flat b.1++flat b.2.1) n=r:=⟨_,rfl⟩
 obtain ⟨r4,hr4⟩:∃ r,(!decide (bestP b.2.1=0)&&decide (bestP b.2.1≤bestP b.1))=r:=⟨_,rfl⟩
 have hbl:∀ u,Below V.heap.size V u→BL B b (.agg #[x,y,.int .i64 n]) u:=fun u hu=>by rw [← hn];exact (hcf.stays hu).bl
 have HK:=lH (show ∀ u,Below V.heap.size V u→Calls Tryz.prog 144 #[.agg #[x,y,.int .i64 n]] u fun e w'=>e=.returned (.int .i64 (k:Nat))∧Below u.heap.size u w' from fun u hu=>by
  rw [← hk];exact cnt_any B b _ u (hbl u hu) (hBu u hu) (by omega) (by omega) (by omega) (by omega))
 have HR1:=lH (show ∀ u,Below V.heap.size V u→Calls Tryz.prog 145 #[x,.int .i64 1] u fun e w'=>e=.returned (.bool r1)∧Below u.heap.size u w' from fun u hu=>by
  rw [← hr1];exact right_any B b.1 _ 1 u (hcf.stays hu).l1 (hBu u hu) h1 h2)
 have HR2:=lH (show ∀ u,Below V.heap.size V u→Calls Tryz.prog 145 #[y,.int .i64 2] u fun e w'=>e=.returned (.bool r2)∧Below u.heap.size u w' from fun u hu=>by
  rw [← hr2];exact right_any B b.2.1 _ 2 u (hcf.stays hu).l2 (hBu u hu) h3 h4)
 have HR3:=lH (show ∀ u,Below V.heap.size V u→Calls Tryz.prog 146 #[.agg #[x,y,.int .i64 n]] u fun e w'=>e=.returned (.bool r3)∧Below u.heap.size u w' from fun u hu=>by
  rw [← hr3,← hn];exact ids_any B b _ u (by rw [hn];exact hbl u hu) (hBu u hu) (by omega) (by omega) (by omega) (by omega) (by rw [List.length_append];omega))
 have HR4:=lH (show ∀ u,Below V.heap.size V u→Calls Tryz.prog 147 #[.agg #[x,y,.int .i64 n]] u fun e w'=>e=.returned (.bool r4)∧Below u.heap.size u w' from fun u hu=>by
  rw [← hr4];exact crossed_any B b _ u (hbl u hu) (hBu u hu) (by omega) (by omega) (by omega) (by omega))
 have HV:=lH hV
 have HRR:=lH hR
 have HN:=lH hn
 have Hr1:=lH hr1
 have Hr2:=lH hr2
 have Hr3:=lH hr3
 have Hr4:=lH hr4
 have Hk:=lH hk
 have HRc:Hid (1≤n→n≤1073741824→k≤40→r1=true→r2=true→R=(r3&&!r4)):=lH fun a1 a2 a3 a4 a5=>by
  rw [← hR,← hr3,← hr4,← hn]
  exact rightB_code (by rw [hn];exact a1) (by rw [hn];exact a2) (by rw [hk];exact a3) (rightL_iff.1 (hr1.trans a4)) (rightL_iff.1 (hr2.trans a5))
 have hkz:k≤1000000:=by rw [← hk];unfold cntB;omega
 obtain ⟨a1,c1,rfl⟩:=hx.len
 obtain ⟨a2,c2,rfl⟩:=hy.len
 clear hx hy hV hn hr1 hr2 hr3 hr4 hR hk hbl hBu hcf
 obtain ⟨m0,m1,m2,mz,mr⟩:=HC.out V (Below.refl _ _)
 by_cases dA:n<1
 ·have hA:¬ 1≤n:=by omega
  have HZ:Hid (R=false):=lH (by rw [← HRR.out];exact rightB_no fun h=>by have:=h.n1;rw [HN.out] at this;omega)
  go_enter Tryz.func118,Tryz.ntmps118
  go_wp2
  go_ret
  exact ⟨ret_bool HZ.out.symm,below1 w _⟩
 have hA:1≤n:=by omega
 by_cases dB:1073741824<n
 ·have hB2:¬ n≤1073741824:=by omega
  have HZ:Hid (R=false):=lH (by rw [← HRR.out];exact rightB_no fun h=>by have:=h.n2;rw [HN.out] at this;omega)
  go_enter Tryz.func118,Tryz.ntmps118
  go_wp2
  go_ret
  exact ⟨ret_bool HZ.out.symm,below1 w _⟩
 have hB2:n≤1073741824:=by omega
 by_cases dC:40<k
 ·have hC2:¬ (k:Int)≤40:=by omega
  have HZ:Hid (R=false):=lH (by rw [← HRR.out];exact rightB_no fun h=>by have:=h.cnt;rw [Hk.out] at this;omega)
  go_enter Tryz.func118,Tryz.ntmps118
  go_wp2_with fail
  rw [← HV.out]
  refine (HK.out _ (Below.refl _ _)).mono ?_
  rintro e w1 ⟨rfl,hc1⟩
  have hb1:=hc1
  clear m0 m1 m2 mz mr
  obtain ⟨m0,m1,m2,mz,mr⟩:=HC.out w1 hb1
  clear m0 m1 m2 mr
  go_wp2
  go_ret
  exact ⟨ret_bool HZ.out.symm,nx hbV hb1⟩
 have hC2:(k:Int)≤40:=by omega
 have hC3:k≤40:=by omega
 cases r1
 ·have HZ:Hid (R=false):=lH (by rw [← HRR.out];exact rightB_no fun h=>by have:=Hr1.out;rw [rightL_iff.2 h.buys] at this;cases this)
  go_enter Tryz.func118,Tryz.ntmps118
  go_wp2_with fail
  rw [← HV.out]
  refine (HK.out _ (Below.refl _ _)).mono ?_
  rintro e w1 ⟨rfl,hc1⟩
  have hb1:=hc1
  clear m0 m1 m2 mz mr
  obtain ⟨m0,m1,m2,mz,mr⟩:=HC.out w1 hb1
  go_wp2_with fail
  refine (HR1.out _ hb1).mono ?_
  rintro e w2 ⟨rfl,hc2⟩
  have hb2:=nx hb1 hc2
  clear m0 m1 m2 mz mr
  obtain ⟨m0,m1,m2,mz,mr⟩:=HC.out w2 hb2
  clear m0 m1 m2 mr
  go_wp2
  go_ret
  exact ⟨ret_bool HZ.out.symm,nx hbV hb2⟩
 cases r2
 ·have HZ:Hid (R=false):=lH (by rw [← HRR.out];exact rightB_no fun h=>by have:=Hr2.out;rw [rightL_iff.2 h.sells] at this;cases this)
  go_enter Tryz.func118,Tryz.ntmps118
  go_wp2_with fail
  rw [← HV.out]
  refine (HK.out _ (Below.refl _ _)).mono ?_
  rintro e w1 ⟨rfl,hc1⟩
  have hb1:=hc1
  clear m0 m1 m2 mz mr
  obtain ⟨m0,m1,m2,mz,mr⟩:=HC.out w1 hb1
  go_wp2_with fail
  refine (HR1.out _ hb1).mono ?_
  rintro e w2 ⟨rfl,hc2⟩
  have hb2:=nx hb1 hc2
  clear m0 m1 m2 mz mr
  obtain ⟨m0,m1,m2,mz,mr⟩:=HC.out w2 hb2
  go_wp2_with fail
  refine (HR2.out _ hb2).mono ?_
  rintro e w3 ⟨rfl,hc3⟩
  have hb3:=nx hb2 hc3
  clear m0 m1 m2 mz mr
  obtain ⟨m0,m1,m2,mz,mr⟩:=HC.out w3 hb3
  clear m0 m1 m2 mr
  go_wp2
  go_ret
  exact ⟨ret_bool HZ.out.symm,nx hbV hb3⟩
 have HZ:=lH (HRc.out hA hB2 hC3 rfl rfl)
 cases r3
 ·have HZ2:Hid (R=false):=lH HZ.out
  go_enter Tryz.func118,Tryz.ntmps118
  go_wp2_with fail
  rw [← HV.out]
  refine (HK.out _ (Below.refl _ _)).mono ?_
  rintro e w1 ⟨rfl,hc1⟩
  have hb1:=hc1
  clear m0 m1 m2 mz mr
  obtain ⟨m0,m1,m2,mz,mr⟩:=HC.out w1 hb1
  go_wp2_with fail
  refine (HR1.out _ hb1).mono ?_
  rintro e w2 ⟨rfl,hc2⟩
  have hb2:=nx hb1 hc2
  clear m0 m1 m2 mz mr
  obtain ⟨m0,m1,m2,mz,mr⟩:=HC.out w2 hb2
  go_wp2_with fail
  refine (HR2.out _ hb2).mono ?_
  rintro e w3 ⟨rfl,hc3⟩
  have hb3:=nx hb2 hc3
  clear m0 m1 m2 mz mr
  obtain ⟨m0,m1,m2,mz,mr⟩:=HC.out w3 hb3
  go_wp2_with fail
  refine (HR3.out _ hb3).mono ?_
  rintro e w4 ⟨rfl,hc4⟩
  have hb4:=nx hb3 hc4
  clear m0 m1 m2 mz mr
  obtain ⟨m0,m1,m2,mz,mr⟩:=HC.out w4 hb4
  clear m0 m1 m2 mr
  go_wp2
  go_ret
  exact ⟨ret_bool HZ2.out.symm,nx hbV hb4⟩
 ·cases r4
  ·have HZ2:Hid (R=true):=lH HZ.out
   go_enter Tryz.func118,Tryz.ntmps118
   go_wp2_with fail
   rw [← HV.out]
   refine (HK.out _ (Below.refl _ _)).mono ?_
   rintro e w1 ⟨rfl,hc1⟩
   have hb1:=hc1
   clear m0 m1 m2 mz mr
   obtain ⟨m0,m1,m2,mz,mr⟩:=HC.out w1 hb1
   go_wp2_with fail
   refine (HR1.out _ hb1).mono ?_
   rintro e w2 ⟨rfl,hc2⟩
   have hb2:=nx hb1 hc2
   clear m0 m1 m2 mz mr
   obtain ⟨m0,m1,m2,mz,mr⟩:=HC.out w2 hb2
   go_wp2_with fail
   refine (HR2.out _ hb2).mono ?_
   rintro e w3 ⟨rfl,hc3⟩
   have hb3:=nx hb2 hc3
   clear m0 m1 m2 mz mr
   obtain ⟨m0,m1,m2,mz,mr⟩:=HC.out w3 hb3
   go_wp2_with fail
   refine (HR3.out _ hb3).mono ?_
   rintro e w4 ⟨rfl,hc4⟩
   have hb4:=nx hb3 hc4
   clear m0 m1 m2 mz mr
   obtain ⟨m0,m1,m2,mz,mr⟩:=HC.out w4 hb4
   go_wp2_with fail
   refine (HR4.out _ hb4).mono ?_
   rintro e w5 ⟨rfl,hc5⟩
   have hb5:=nx hb4 hc5
   clear m0 m1 m2 mz mr
   obtain ⟨m0,m1,m2,mz,mr⟩:=HC.out w5 hb5
   clear m0 m1 m2 mr
   go_wp2
   go_ret
   exact ⟨ret_bool HZ2.out.symm,nx hbV hb5⟩
  ·have HZ2:Hid (R=false):=lH HZ.out
   go_enter Tryz.func118,Tryz.ntmps118
   go_wp2_with fail
   rw [← HV.out]
   refine (HK.out _ (Below.refl _ _)).mono ?_
   rintro e w1 ⟨rfl,hc1⟩
   have hb1:=hc1
   clear m0 m1 m2 mz mr
   obtain ⟨m0,m1,m2,mz,mr⟩:=HC.out w1 hb1
   go_wp2_with fail
   refine (HR1.out _ hb1).mono ?_
   rintro e w2 ⟨rfl,hc2⟩
   have hb2:=nx hb1 hc2
   clear m0 m1 m2 mz mr
   obtain ⟨m0,m1,m2,mz,mr⟩:=HC.out w2 hb2
   go_wp2_with fail
   refine (HR2.out _ hb2).mono ?_
   rintro e w3 ⟨rfl,hc3⟩
   have hb3:=nx hb2 hc3
   clear m0 m1 m2 mz mr
   obtain ⟨m0,m1,m2,mz,mr⟩:=HC.out w3 hb3
   go_wp2_with fail
   refine (HR3.out _ hb3).mono ?_
   rintro e w4 ⟨rfl,hc4⟩
   have hb4:=nx hb3 hc4
   clear m0 m1 m2 mz mr
   obtain ⟨m0,m1,m2,mz,mr⟩:=HC.out w4 hb4
   go_wp2_with fail
   refine (HR4.out _ hb4).mono ?_
   rintro e w5 ⟨rfl,hc5⟩
   have hb5:=nx hb4 hc5
   clear m0 m1 m2 mz mr
   obtain ⟨m0,m1,m2,mz,mr⟩:=HC.out w5 hb5
   clear m0 m1 m2 mr
   go_wp2
   go_ret
   exact ⟨ret_bool HZ2.out.symm,nx hbV hb5⟩
end Go.Proofs.YtjhocpcpkemcaaaGreat.Bk
