/- Package level as it landed: Find, Best. -/
import Derived.Test.YtjhocpcpkemcaaaGreatQkZZ
import Derived.Test.YtjhocpcpkemcaaaGreatQkBD
import Derived.Test.YtjhocpcpkemcaaaGreatQkBF
import Derived.Test.YtjhocpcpkemcaaaGreatQkBA
set_option linter.unusedVariables false
set_option maxRecDepth 16000
set_option maxHeartbeats 32000000
namespace Go.Proofs.YtjhocpcpkemcaaaGreat.Le
open Go.RowKit
open Rw
open Da
theorem find_big (B : Bs) (l : List Lv) (v : Value) (id : Int) (w : World) (h : LL B l v w) (hm : l.length≤1000000) (hf : (flat l).length≤1000000) :
  Calls Tryz.prog 191 #[v,.int .i64 id] w fun e w'=>e=.returned (fV (fnd (flat l) id))∧Below w.heap.size w w':=by
 rcases h.cases with ⟨rfl,a,c,rfl⟩ | ⟨hne,b,off,c,rfl,hat⟩
 ·clear h
  go_enter Tryz.func191,Tryz.ntmps191
  go_wp2
  go_loopw [11] (fun i wr=>i=.int .i64 0∧wr=w.alloc (.cells #[.int .i64 0,.int .i64 0,.int .i64 0,.int .i64 0,.int .i64 0] 74)) (fun i _=>0)
  case atStart=>exact ⟨rfl,rfl⟩
  case round =>
   obtain ⟨rfl,rfl⟩:=hrel
   go_wp2
   exact bodyPost_ret (v:=fV none) (by simp [results,Tryz.results191,go_sem,fV]) rfl ⟨rfl,(below1 _ _)⟩
 ·have hbb : b<w.heap.size:=hat.1
  have HA:=lH hat
  have HF:=lH hf
  obtain ⟨n,hn⟩ : ∃ n,n=l.length:=⟨_,rfl⟩
  obtain ⟨r,hr⟩ : ∃ r,fnd (flat l) id=r:=⟨_,rfl⟩
  rw [← hn] at hm ⊢
  rw [hr]
  have HN:=lH hn
  have HR:=lH hr
  clear h hat hn hne hf hr
  go_enter Tryz.func191,Tryz.ntmps191
  go_wp2
  obtain ⟨W,hW⟩ : ∃ W,W=w.alloc (.cells #[.int .i64 0,.int .i64 0,.int .i64 0,.int .i64 0,.int .i64 0] 74):=⟨_,rfl⟩
  have hbW : Below w.heap.size w W:=hW ▸ below1 w _
  have hz : w.heap.size<W.heap.size:=by rw [hW];simp
  have hbz : b<W.heap.size:=by omega
  have hpz : plain 5 W w.heap.size=true:=by rw [hW];simp [go_sem]
  have HW:=lH (Lies.keep eL 106 HA.out (Keeps.of_below hbW))
  rw [← hW]
  clear hW HA
  have HPz:=lH hpz
  clear hpz
  go_loopw [8,11] (fun _ i wr=>∃ k : Nat,k≤n∧i=.int .i64 k∧Below W.heap.size W wr∧fnd (flat (l.drop k)) id=r) (fun _ i _=>n - (intOf i).toNat)
  case atStart=>exact ⟨0,Nat.zero_le _,rfl,Below.refl _ _,HR.out⟩
  case round =>
   obtain ⟨wo,rfl⟩ : ∃ wo : World,wo=wr:=⟨_,rfl⟩
   obtain ⟨k,hk,rfl,hb,hrest⟩:=hrel
   have HT:=lH hrest
   clear hrest
   by_cases hlt : k<n
   ·have hlt2 : (k : Int)<n:=by omega
    have hkl : k<l.length:=by rw [← HN.out];exact hlt
    obtain ⟨x,q0,q1,hx⟩:=atL HW.out k hkl
    have hx2:=Is.stays eO 74 hx hb
    obtain ⟨c1,f1,r1,p1⟩:=bcell hb
    have hfl:=flat_drop hkl
    obtain ⟨⟨pr,os⟩,hlk⟩ : ∃ y,l[k]=y:=⟨_,rfl⟩
    rw [hlk] at q0 hx2 hfl
    simp only at q0 hx2 hfl
    have hos : os.length≤1000000:=by
     have h1:=flat_take_le l (k+1)
     have h2:=count_take hkl
     rw [hlk] at h2
     simp only at h2
     have:=HF.out
     omega
    have HFl : Hid (fnd (os++flat (l.drop (k+1))) id=r):=lH (by rw [← hfl];exact HT.out)
    clear hfl hlk hx
    have HX:=lH (Is.stays eO 74 hx2 (below1 wo (.cells #[.int .i64 pr,x] 106)))
    obtain ⟨a2,c2,rfl,hel⟩:=hx2
    have HE:=lH hel
    clear hel
    obtain ⟨V,hV⟩ : ∃ V,V=wo.alloc (.cells #[.int .i64 pr,.slice a2 os.length c2] 106):=⟨_,rfl⟩
    have hbV : Below wo.heap.size wo V:=hV ▸ below1 wo _
    have hzV : wo.heap.size<V.heap.size:=by rw [hV];simp
    have hF : ∀ u,Below V.heap.size V u→u.cell? ⟨wo.heap.size,1,none⟩=some (.slice a2 os.length c2)∧wo.heap.size<u.heap.size:=fun u hu=>by
     refine ⟨?_,Nat.lt_of_lt_of_le hzV hu.size⟩
     rw [hu.cell (p:=⟨wo.heap.size,1,none⟩) hzV,hV];simp [go_sem]
    have HFv:=lH hF
    have HV:=lH hV
    clear hF hV
    obtain ⟨q,hq⟩ : ∃ q,ixD id os 0=q:=⟨_,rfl⟩
    have HQ:=lH hq
    clear hq
    rcases ixD_spec id os 0 with ⟨e1,e2⟩ | ⟨j,hj,e1,e2,e3⟩
    ·have HZ : Hid (fnd (flat (l.drop (k+1))) id=r):=lH (by rw [← HFl.out,fnd_none_app e2])
     rw [HQ.out] at e1
     subst e1
     clear e2
     go_wp2_with fail
     refine (indexOf_is HQ HX.out hos).mono ?_
     rintro e w' ⟨rfl,hb1⟩
     rw [← HV.out] at hb1
     go_wp2
     go_roundw
     case rel=>exact ⟨k+1,by omega,by go_num,nx hb (nx hbV hb1),HZ.out⟩
     case measure=>simp [intOf];omega
    ·have HZ : Hid (r=some os[j]):=lH (by rw [← HFl.out,fnd_at_app hj e2 e3])
     rw [HQ.out,Nat.zero_add] at e1
     subst e1
     clear e2 e3
     rcases HE.out with ⟨e,_⟩ | ⟨b2,off2,rfl,hat2⟩
     ·rw [e] at hj;cases hj
     ·have hc5:=at5 hat2 j hj
      have hb2:=hat2.1
      have HJ:=lH hj
      have hj2 : (j : Int)<os.length:=by omega
      obtain ⟨⟨o1,o2,o3,o4,o5⟩,ho⟩ : ∃ o,os[j]'hj=o:=⟨_,rfl⟩
      rw [ho] at hc5
      have HZ2 : Hid (r=some (o1,o2,o3,o4,o5)):=lH (by rw [HZ.out,ho])
      simp only at hc5
      have HC:=lH hc5
      clear ho hat2 hc5
      go_wp2_with fail
      refine (indexOf_is HQ HX.out hos).mono ?_
      rintro e w' ⟨rfl,hb1⟩
      rw [← HV.out] at hb1
      have hb3:=nx hbV hb1
      have hbw:=nx hb hb3
      obtain ⟨k0,k1⟩:=HFv.out _ hb1
      have hg : ∀ o,w'.cell? ⟨b2,o,none⟩=wo.cell? ⟨b2,o,none⟩:=fun o=>hb3.cell (p:=⟨b2,o,none⟩) hb2
      obtain ⟨s0,s1,s2,s3,s4⟩:=HC.out
      rw [← hg] at s0 s1 s2 s3 s4
      have hb2' : b2<w'.heap.size:=Nat.lt_of_lt_of_le hb2 hb3.size
      have hz2 : w.heap.size<w'.heap.size:=by have:=hbw.size;omega
      have hpi : plain 5 w' w.heap.size=true:=by rw [(bcell hbw).2.2.2 _ _ hz];exact HPz.out
      clear hg
      go_wp2
      refine bodyPost_ret (v:=fV (some (o1,o2,o3,o4,o5))) (ret_O2 Tryz.results191 _ _ rfl ?c1) rfl ⟨by rw [HZ2.out],?c2⟩
      case c1=>exact row_set _ hpi
      case c2=>exact below_setRow (nx hbW hbw) (Nat.le_refl _) _
   ·obtain rfl : k=n:=by omega
    have HZ : Hid (r=none):=lH (by rw [← HT.out,HN.out,List.drop_length];rfl)
    have hz2 : w.heap.size<wo.heap.size:=by have:=hb.size;omega
    have hpr : plain 5 wo w.heap.size=true:=by rw [(bcell hb).2.2.2 _ _ hz];exact HPz.out
    go_wp2
    refine bodyPost_ret (v:=fV none) (ret_O2 Tryz.results191 _ _ rfl ?c3) rfl ⟨by rw [HZ.out],?c4⟩
    case c3=>exact row_set _ hpr
    case c4=>exact below_setRow (nx hbW hb) (Nat.le_refl _) _
theorem best_big (B : Bs) (l : List Lv) (v : Value) (w : World) (h : LL B l v w) (hm : l.length≤1000000) (hf : (flat l).length≤1000000) :
  Calls Tryz.prog 115 #[v] w fun e w'=>e=.returned (fV ((flat l).head?))∧Below w.heap.size w w':=by
 rcases h.cases with ⟨rfl,a,c,rfl⟩ | ⟨hne,b,off,c,rfl,hat⟩
 ·clear h
  go_enter Tryz.func115,Tryz.ntmps115
  go_wp2
  go_loopw [8] (fun i wr=>i=.int .i64 0∧wr=w.alloc (.cells #[.int .i64 0,.int .i64 0,.int .i64 0,.int .i64 0,.int .i64 0] 74)) (fun i _=>0)
  case atStart=>exact ⟨rfl,rfl⟩
  case round =>
   obtain ⟨rfl,rfl⟩:=hrel
   go_wp2
   exact bodyPost_ret (v:=fV none) (by simp [results,Tryz.results115,go_sem,fV]) rfl ⟨rfl,(below1 _ _)⟩
 ·have hbb : b<w.heap.size:=hat.1
  have HA:=lH hat
  have HF:=lH hf
  obtain ⟨n,hn⟩ : ∃ n,n=l.length:=⟨_,rfl⟩
  obtain ⟨r,hr⟩ : ∃ r,(flat l).head?=r:=⟨_,rfl⟩
  rw [← hn] at hm ⊢
  rw [hr]
  have HN:=lH hn
  have HR:=lH hr
  clear h hat hn hne hf hr
  go_enter Tryz.func115,Tryz.ntmps115
  go_wp2
  obtain ⟨W,hW⟩ : ∃ W,W=w.alloc (.cells #[.int .i64 0,.int .i64 0,.int .i64 0,.int .i64 0,.int .i64 0] 74):=⟨_,rfl⟩
  have hbW : Below w.heap.size w W:=hW ▸ below1 w _
  have hz : w.heap.size<W.heap.size:=by rw [hW];simp
  have hbz : b<W.heap.size:=by omega
  have hpz : plain 5 W w.heap.size=true:=by rw [hW];simp [go_sem]
  have HW:=lH (Lies.keep eL 106 HA.out (Keeps.of_below hbW))
  rw [← hW]
  clear hW HA
  have HPz:=lH hpz
  clear hpz
  go_loopw [8] (fun i wr=>∃ k : Nat,k≤n∧i=.int .i64 k∧Below W.heap.size W wr∧(flat (l.drop k)).head?=r) (fun i _=>n - (intOf i).toNat)
  case atStart=>exact ⟨0,Nat.zero_le _,rfl,Below.refl _ _,HR.out⟩
  case round =>
   obtain ⟨wo,rfl⟩ : ∃ wo : World,wo=wr:=⟨_,rfl⟩
   obtain ⟨k,hk,rfl,hb,hrest⟩:=hrel
   have HT:=lH hrest
   clear hrest
   by_cases hlt : k<n
   ·have hlt2 : (k : Int)<n:=by omega
    have hkl : k<l.length:=by rw [← HN.out];exact hlt
    obtain ⟨x,q0,q1,hx⟩:=atL HW.out k hkl
    have hx2:=Is.stays eO 74 hx hb
    obtain ⟨c1,f1,r1,p1⟩:=bcell hb
    have hfl:=flat_drop hkl
    obtain ⟨⟨pr,os⟩,hlk⟩ : ∃ y,l[k]=y:=⟨_,rfl⟩
    rw [hlk] at q0 hx2 hfl
    simp only at q0 hx2 hfl
    have hos : os.length≤1000000:=by
     have h1:=flat_take_le l (k+1)
     have h2:=count_take hkl
     rw [hlk] at h2
     simp only at h2
     have:=HF.out
     omega
    have HFl : Hid ((os++flat (l.drop (k+1))).head?=r):=lH (by rw [← hfl];exact HT.out)
    clear hfl hlk hx
    have HX:=lH (Is.stays eO 74 hx2 (below1 wo (.cells #[.int .i64 pr,x] 106)))
    obtain ⟨a2,c2,rfl,hel⟩:=hx2
    have HE:=lH hel
    clear hel
    obtain ⟨V,hV⟩ : ∃ V,V=wo.alloc (.cells #[.int .i64 pr,.slice a2 os.length c2] 106):=⟨_,rfl⟩
    have hbV : Below wo.heap.size wo V:=hV ▸ below1 wo _
    have hzV : wo.heap.size<V.heap.size:=by rw [hV];simp
    have hF : ∀ u,Below V.heap.size V u→u.cell? ⟨wo.heap.size,1,none⟩=some (.slice a2 os.length c2)∧wo.heap.size<u.heap.size:=fun u hu=>by
     refine ⟨?_,Nat.lt_of_lt_of_le hzV hu.size⟩
     rw [hu.cell (p:=⟨wo.heap.size,1,none⟩) hzV,hV];simp [go_sem]
    have HFv:=lH hF
    have HV:=lH hV
    clear hF hV
    rcases Nat.eq_zero_or_pos os.length with h0 | h0
    ·obtain rfl : os=[]:=List.length_eq_zero_iff.1 h0
     have HZ : Hid ((flat (l.drop (k+1))).head?=r):=lH (by rw [← HFl.out];rfl)
     clear h0
     go_wp2_with fail
     refine (isEmpty_any _ _ _ _ hos _).mono ?_
     rintro e w' ⟨rfl,hb1⟩
     replace hb1 : Below V.heap.size V w':=by rw [HV.out];exact hb1
     go_wp2
     go_roundw
     case rel=>exact ⟨k+1,by omega,by go_num,nx hb (nx hbV hb1),HZ.out⟩
     case measure=>simp [intOf];omega
    ·have hd : Hid (decide (os.length=0)=false):=lH (decide_eq_false (by omega))
     have HZ : Hid (r=some (os[0]'h0)):=lH (by rw [← HFl.out];cases os with
      | nil=>cases h0
      | cons o t=>rfl)
     rcases HE.out with ⟨e,_⟩ | ⟨b2,off2,rfl,hat2⟩
     ·rw [e] at h0;cases h0
     ·have hc5:=at5 hat2 0 h0
      have hb2:=hat2.1
      obtain ⟨⟨o1,o2,o3,o4,o5⟩,ho⟩ : ∃ o,os[0]'h0=o:=⟨_,rfl⟩
      rw [ho,Nat.zero_mul,Nat.add_zero] at hc5
      have HZ2 : Hid (r=some (o1,o2,o3,o4,o5)):=lH (by rw [HZ.out,ho])
      simp only at hc5
      have HC:=lH hc5
      clear ho hat2 hc5
      go_wp2_with fail
      refine (isEmpty_any _ _ _ _ hos _).mono ?_
      rintro e w' ⟨rfl,hb1⟩
      rw [hd.out]
      replace hb1 : Below V.heap.size V w':=by rw [HV.out];exact hb1
      have hb3:=nx hbV hb1
      have hbw:=nx hb hb3
      obtain ⟨k0,k1⟩:=HFv.out _ hb1
      have hg : ∀ o,w'.cell? ⟨b2,o,none⟩=wo.cell? ⟨b2,o,none⟩:=fun o=>hb3.cell (p:=⟨b2,o,none⟩) hb2
      obtain ⟨s0,s1,s2,s3,s4⟩:=HC.out
      rw [← hg] at s0 s1 s2 s3 s4
      have hb2' : b2<w'.heap.size:=Nat.lt_of_lt_of_le hb2 hb3.size
      have hz2 : w.heap.size<w'.heap.size:=by have:=hbw.size;omega
      have hpi : plain 5 w' w.heap.size=true:=by rw [(bcell hbw).2.2.2 _ _ hz];exact HPz.out
      clear hg
      go_wp2
      refine bodyPost_ret (v:=fV (some (o1,o2,o3,o4,o5))) (ret_O2 Tryz.results115 _ _ rfl ?c1) rfl ⟨by rw [HZ2.out],?c2⟩
      case c1=>exact row_set _ hpi
      case c2=>exact below_setRow (nx hbW hbw) (Nat.le_refl _) _
   ·obtain rfl : k=n:=by omega
    have HZ : Hid (r=none):=lH (by rw [← HT.out,HN.out,List.drop_length];rfl)
    have hz2 : w.heap.size<wo.heap.size:=by have:=hb.size;omega
    have hpr : plain 5 wo w.heap.size=true:=by rw [(bcell hb).2.2.2 _ _ hz];exact HPz.out
    go_wp2
    refine bodyPost_ret (v:=fV none) (ret_O2 Tryz.results115 _ _ rfl ?c3) rfl ⟨by rw [HZ.out],?c4⟩
    case c3=>exact row_set _ hpr
    case c4=>exact below_setRow (nx hbW hb) (Nat.le_refl _) _
end Go.Proofs.YtjhocpcpkemcaaaGreat.Le
namespace Go.Proofs.YtjhocpcpkemcaaaGreat.Bk
open Go.RowKit
open Rw
open Da
open Le
theorem new_any (w : World) : Calls Tryz.prog 77 #[] w fun e w'=>e=.returned (.agg #[.slice none 0 0,.slice none 0 0,.int .i64 1])∧Below w.heap.size w w':=by
 go_enter Tryz.func77,Tryz.ntmps77
 go_wp2
 refine bodyPost_ret (v:=.agg #[.slice none 0 0,.slice none 0 0,.int .i64 1]) (ret_B1 Tryz.results77 _ _ rfl ?c1) rfl ⟨rfl,below1 _ _⟩
 case c1=>simp [go_sem]
theorem meets_any (o1 o2 o3 o4 o5 r1 r2 r3 r4 r5 : Int) (w : World) : Calls Tryz.prog 207 #[.agg #[.int .i64 o1,.int .i64 o2,.int .i64 o3,.int .i64 o4,.int .i64 o5],.agg #[.int .i64 r1,.int .i64 r2,.int .i64 r3,.int .i64 r4,.int .i64 r5]] w fun e w'=>e=.returned (.bool (meets o3 o4 r4))∧Below w.heap.size w w':=by
 by_cases h : o3=1
 ·have hd : (o3==1)=true:=by simpa using h
  have H : Hid (meets o3 o4 r4=decide (r4≤o4)):=lH (if_pos h)
  clear h
  go_enter Tryz.func207,Tryz.ntmps207
  go_wp2
  go_ret
  exact ⟨ret_bool H.out.symm,below2 _ _ _⟩
 ·have hd : (o3==1)=false:=by simpa using h
  have H : Hid (meets o3 o4 r4=decide (o4≤r4)):=lH (if_neg h)
  clear h
  go_enter Tryz.func207,Tryz.ntmps207
  go_wp2
  go_ret
  exact ⟨ret_bool H.out.symm,below2 _ _ _⟩
theorem sides_any (p : Nat) (s : Int) (w : World) : Calls Tryz.prog 186 #[.pointer (some ⟨p,0,none⟩),.int .i64 s] w fun e w'=>e=.returned (if s=1 then .tuple #[.pointer (some ⟨p,0,none⟩),.pointer (some ⟨p,1,none⟩)] else .tuple #[.pointer (some ⟨p,1,none⟩),.pointer (some ⟨p,0,none⟩)])∧Below w.heap.size w w':=by
 by_cases h : s=1
 ·have hd : (s==1)=true:=by simpa using h
  rw [if_pos h];clear h
  go_enter Tryz.func186,Tryz.ntmps186
  go_wp2
  go_region
  go_wp2
  go_ret2
  exact ⟨rfl,(Below.refl _ _).drew⟩
 ·have hd : (s==1)=false:=by simpa using h
  rw [if_neg h];clear h
  go_enter Tryz.func186,Tryz.ntmps186
  go_wp2
  go_region
  go_wp2
  go_ret2
  exact ⟨rfl,(Below.refl _ _).drew⟩
theorem CF.made {B : Bs} {b : Bk} {x y : Value} {n : Int} {w : World} (hB : B.le w.heap.size) (hx : LL B b.1 x w) (hy : LL B b.2.1 y w) (hn : b.2.2=n) : CF B b x y w.heap.size w (w.alloc (.cells #[x,y,.int .i64 n] 57)):=by
 subst hn
 exact ⟨heap_alloc_new w _,hB.1,Is.stays eL 106 hx (below1 w _),Is.stays eL 106 hy (below1 w _),below1 w _⟩
theorem CF.facts {A : Bs} {b : Bk} {x y : Value} {s : Nat} {n : Int} {w V : World} (h : CF A b x y s w V) (hn : b.2.2=n) : ∀ u,Below V.heap.size V u→u.cell? ⟨s,0,none⟩=some x∧u.cell? ⟨s,1,none⟩=some y∧u.cell? ⟨s,2,none⟩=some (.int .i64 n)∧s<u.heap.size∧Rw.row u s=#[x,y,.int .i64 n]:=fun u hu=>by
 subst hn
 have k:=h.stays hu
 exact ⟨k.cells.1,k.cells.2.1,k.cells.2.2.1,k.lt,k.row⟩
theorem cnt_any (B : Bs) (b : Bk) (v : Value) (w : World) (h : BL B b v w) (hB : B.le w.heap.size) (h1 : b.1.length≤1000000) (h2 : (flat b.1).length≤1000000) (h3 : b.2.1.length≤1000000) (h4 : (flat b.2.1).length≤1000000) :
  Calls Tryz.prog 144 #[v] w fun e w'=>e=.returned (.int .i64 (cntB b : Nat))∧Below w.heap.size w w':=by
 obtain ⟨x,y,rfl,hx,hy⟩:=h
 obtain ⟨n,hn⟩ : ∃ n,b.2.2=n:=⟨_,rfl⟩
 rw [hn]
 obtain ⟨V,hV⟩ : ∃ V,V=w.alloc (.cells #[x,y,.int .i64 n] 57):=⟨_,rfl⟩
 have hcf : CF B b x y w.heap.size w V:=hV ▸ CF.made hB hx hy hn
 have hbV : Below w.heap.size w V:=hcf.bel
 have HC:=lH (hcf.facts hn)
 obtain ⟨k1,hk1⟩ : ∃ k,(flat b.1).length=k:=⟨_,rfl⟩
 obtain ⟨k2,hk2⟩ : ∃ k,(flat b.2.1).length=k:=⟨_,rfl⟩
 have hK1 : ∀ u,Below V.heap.size V u→Calls Tryz.prog 174 #[x] u fun e w'=>e=.returned (.int .i64 (k1 : Nat))∧Below u.heap.size u w':=fun u hu=>by
  rw [← hk1];exact count_big B b.1 _ u (hcf.stays hu).l1 h1 h2
 have hK2 : ∀ u,Below V.heap.size V u→Calls Tryz.prog 174 #[y] u fun e w'=>e=.returned (.int .i64 (k2 : Nat))∧Below u.heap.size u w':=fun u hu=>by
  rw [← hk2];exact count_big B b.2.1 _ u (hcf.stays hu).l2 h3 h4
 have HK1:=lH hK1
 have HK2:=lH hK2
 have HV:=lH hV
 have HZ : Hid ((cntB b : Nat)=k1+k2):=lH (by unfold cntB;rw [hk1,hk2])
 have hk1' : k1≤1000000:=by omega
 have hk2' : k2≤1000000:=by omega
 obtain ⟨a1,c1,rfl⟩:=hx.len
 obtain ⟨a2,c2,rfl⟩:=hy.len
 clear hx hy hV hn hk1 hk2 hK1 hK2 hcf
 go_enter Tryz.func144,Tryz.ntmps144
 go_wp2
 rw [← HV.out]
 refine Rf.rg [0,1,2,3,4,5,6,7] ?_
 repeat (first | (refine Rf.Steps.sk ?_;simp only [Act.put,sA,sB,sC]) | (refine Rf.Steps.pu (v:=?_) ?_ ?_;rotate_left;(intro w_ hS_;have hk_:=HC.out w_ hS_;go_simp<;>with_reducible rfl);simp only [Act.put,sA,sB,sC]) | (refine Rf.Steps.ca (v:=?_) (f:=?_) (args:=?_) ?_ ?_ ?_;rotate_left 3;(intro w_ hS_;have hk_:=HC.out w_ hS_;go_simp<;>first | with_reducible rfl | (constructor<;>with_reducible rfl));(intro w_ hS_;have hk_:=HC.out w_ hS_;first | (go_at_call 174;(first | with_reducible refine (HK1.out w_ hS_).mono ?_ | with_reducible refine (HK2.out w_ hS_).mono ?_);first | (rintro e w_ ⟨rfl,rfl⟩;refine ⟨?_,Below.refl _ _⟩;with_reducible rfl) | (rintro e w_ ⟨rfl,hb_⟩;refine ⟨?_,hb_⟩;with_reducible rfl)));simp only [Act.put,sA,sB,sC]))
 refine Rf.Steps.nil (by kernel_rfl) ?_
 intro w4 hb6
 go_wp2
 go_ret
 exact ⟨ret_int (by rw [HZ.out,IntKind.wrap_i64];omega),nx hbV hb6⟩
theorem top_any (B : Bs) (b : Bk) (v : Value) (w : World) (h : BL B b v w) (h1 : b.1.length≤1000000) (h2 : (flat b.1).length≤1000000) (h3 : b.2.1.length≤1000000) (h4 : (flat b.2.1).length≤1000000) :
  Calls Tryz.prog 75 #[v] w fun e w'=>e=.returned (.tuple #[.int .i64 (bestP b.1),.int .i64 (bestP b.2.1)])∧Below w.heap.size w w':=by
 obtain ⟨x,y,rfl,hx,hy⟩:=h
 rw [bestP_is,bestP_is]
 obtain ⟨q1,hq1⟩ : ∃ q,(flat b.1).head?=q:=⟨_,rfl⟩
 obtain ⟨q2,hq2⟩ : ∃ q,(flat b.2.1).head?=q:=⟨_,rfl⟩
 rw [hq1,hq2]
 have HQ1:=lH hq1
 have HQ2:=lH hq2
 obtain ⟨n,hn⟩ : ∃ n,b.2.2=n:=⟨_,rfl⟩
 rw [hn]
 obtain ⟨V,hV⟩ : ∃ V,V=w.alloc (.cells #[x,y,.int .i64 n] 57):=⟨_,rfl⟩
 have hbV : Below w.heap.size w V:=hV ▸ below1 w _
 have hzV : w.heap.size<V.heap.size:=by rw [hV];simp
 obtain ⟨a1,c1,rfl⟩:=hx.len
 obtain ⟨a2,c2,rfl⟩:=hy.len
 have HX:=lH (show ∀ u,Below V.heap.size V u→LL B b.1 (.slice a1 b.1.length c1) u∧LL B b.2.1 (.slice a2 b.2.1.length c2) u from fun u hu=>⟨Is.stays eL 106 hx (nx hbV hu),Is.stays eL 106 hy (nx hbV hu)⟩)
 have HC:=lH (show ∀ u,Below V.heap.size V u→u.cell? ⟨w.heap.size,0,none⟩=some (.slice a1 b.1.length c1)∧u.cell? ⟨w.heap.size,1,none⟩=some (.slice a2 b.2.1.length c2)∧w.heap.size<u.heap.size from fun u hu=>by
  refine ⟨?_,?_,Nat.lt_of_lt_of_le hzV hu.size⟩
  ·rw [hu.cell (p:=⟨w.heap.size,0,none⟩) hzV,hV];simp [go_sem]
  ·rw [hu.cell (p:=⟨w.heap.size,1,none⟩) hzV,hV];simp [go_sem])
 have HV:=lH hV
 have hcs1:=cO_size q1
 have h1c1 : oneAll (.agg (cO q1))=true:=by cases q1<;>exact one5 _ _ _ _ _
 have hcs2:=cO_size q2
 have h1c2 : oneAll (.agg (cO q2))=true:=by cases q2<;>exact one5 _ _ _ _ _
 have ho1:=cO_3 q1
 have ho2:=cO_3 q2
 have ho2' : ∀ h,(cO q2)[3]'h=.int .i64 (prO q2):=fun h=>by cases q2<;>rfl
 have HB1:=lH h1
 have HB2:=lH h2
 have HB3:=lH h3
 have HB4:=lH h4
 clear hx hy hV hq1 hq2 hn h1 h2 h3 h4
 obtain ⟨m0,m1,mz⟩:=HC.out V (Below.refl _ _)
 go_enter Tryz.func75,Tryz.ntmps75
 go_wp2_with fail
 rw [← HV.out]
 refine (best_big B b.1 _ V (HX.out V (Below.refl _ _)).1 HB1.out HB2.out).mono ?_
 rintro e w1 ⟨rfl,hb1⟩
 rw [HQ1.out,fV_is]
 clear m0 m1 mz
 have hbx:=below1 w1 (.cells (cO q1) 74)
 obtain ⟨X,hX⟩ : ∃ X,X=w1.alloc (.cells (cO q1) 74):=⟨_,rfl⟩
 have hzX : w1.heap.size<X.heap.size:=by rw [hX];simp
 have hcX : X.cell? ⟨w1.heap.size,3,none⟩=some (.int .i64 (prO q1)):=by rw [hX];simp [go_sem,ho1]
 have hc1:=lH (show ∀ u,Below X.heap.size X u→u.cell? ⟨w1.heap.size,3,none⟩=some (.int .i64 (prO q1))∧w1.heap.size<u.heap.size from fun u hu=>⟨(hu.cell (p:=⟨w1.heap.size,3,none⟩) hzX).trans hcX,Nat.lt_of_lt_of_le hzX hu.size⟩)
 rw [← hX] at hbx
 have HX1:=lH hX
 have hb2:=nx hb1 hbx
 obtain ⟨m0,m1,mz⟩:=HC.out w1 hb1
 clear hX hcX
 go_wp2_with fail
 rw [← HX1.out]
 clear m0 m1 mz
 refine (best_big B b.2.1 _ X (HX.out X hb2).2 HB3.out HB4.out).mono ?_
 rintro e w2 ⟨rfl,hb3⟩
 rw [HQ2.out,fV_is]
 obtain ⟨k0,k1⟩:=hc1.out w2 hb3
 go_wp2
 go_region
 go_wp2
 go_ret2
 exact ⟨rfl,(nx hbV (nx hb2 (nx hb3 (below1 _ _)))).drew⟩
theorem crossed_any (B : Bs) (b : Bk) (v : Value) (w : World) (h : BL B b v w) (hB : B.le w.heap.size) (h1 : b.1.length≤1000000) (h2 : (flat b.1).length≤1000000) (h3 : b.2.1.length≤1000000) (h4 : (flat b.2.1).length≤1000000) :
  Calls Tryz.prog 147 #[v] w fun e w'=>e=.returned (.bool (!decide (bestP b.2.1=0)&&decide (bestP b.2.1≤bestP b.1)))∧Below w.heap.size w w':=by
 obtain ⟨x,y,rfl,hx,hy⟩:=h
 obtain ⟨n,hn⟩ : ∃ n,b.2.2=n:=⟨_,rfl⟩
 rw [hn]
 obtain ⟨V,hV⟩ : ∃ V,V=w.alloc (.cells #[x,y,.int .i64 n] 57):=⟨_,rfl⟩
 have hcf : CF B b x y w.heap.size w V:=hV ▸ CF.made hB hx hy hn
 have hbV : Below w.heap.size w V:=hcf.bel
 obtain ⟨m0,m1,m2,mz,mr⟩:=hcf.facts hn V (Below.refl _ _)
 have hbl:=hcf.bl
 rw [hn] at hbl
 obtain ⟨p,hp⟩ : ∃ p,bestP b.1=p:=⟨_,rfl⟩
 obtain ⟨q,hq⟩ : ∃ q,bestP b.2.1=q:=⟨_,rfl⟩
 have hT:=top_any B b _ V hbl h1 h2 h3 h4
 rw [hp,hq] at hT ⊢
 have HT:=lH hT
 have HV:=lH hV
 obtain ⟨a1,c1,rfl⟩:=hx.len
 obtain ⟨a2,c2,rfl⟩:=hy.len
 clear hx hy hV hn hp hq hT hbl hcf m0 m1 m2
 by_cases hq0 : q=0
 ·subst hq0
  go_enter Tryz.func147,Tryz.ntmps147
  go_wp2_with fail
  rw [← HV.out]
  refine HT.out.mono ?_
  rintro e w1 ⟨rfl,hb1⟩
  go_wp2
  go_ret
  exact ⟨ret_bool (by simp),nx hbV hb1⟩
 ·go_enter Tryz.func147,Tryz.ntmps147
  go_wp2_with fail
  rw [← HV.out]
  refine HT.out.mono ?_
  rintro e w1 ⟨rfl,hb1⟩
  go_wp2
  go_ret
  exact ⟨ret_bool (by simp [hq0]),nx hbV hb1⟩
end Go.Proofs.YtjhocpcpkemcaaaGreat.Bk
