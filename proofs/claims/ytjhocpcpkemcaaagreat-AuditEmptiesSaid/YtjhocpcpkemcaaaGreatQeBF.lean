/- Package level as it landed: indexOf, Find, Best. -/
import Derived.Test.YtjhocpcpkemcaaaGreatQeZZ
import Derived.Test.YtjhocpcpkemcaaaGreatQeBC
set_option linter.unusedVariables false
set_option maxRecDepth 16000
set_option maxHeartbeats 32000000
namespace Go.Proofs.YtjhocpcpkemcaaaGreat.Le
open Go.RowKit
open Rw
open Da
def ixD (id:Int):List Od→Nat→Int
 | [],_=>-1
 | o :: r,j=>if o.1=id then (j:Int) else ixD id r (j+1)
theorem ixD_drop {id:Int} {os:List Od} {j:Nat} (h:j<os.length):ixD id (os.drop j) j=if os[j].1=id then (j:Int) else ixD id (os.drop (j+1)) (j+1):=by
 rw [drop_cons h];rfl
theorem ixD_spec (id:Int):∀ (os:List Od) (j:Nat),(ixD id os j=-1∧os.any (hasId id)=false)∨∃ k,∃ h:k<os.length,ixD id os j=((j+k:Nat):Int)∧os[k].1=id∧(os.take k).any (hasId id)=false
 | [],j=>.inl ⟨rfl,rfl⟩
 | o :: r,j=>by
  by_cases e:o.1=id
  ·exact .inr ⟨0,by simp,by simp [ixD,e],by simpa using e,by simp⟩
  ·rcases ixD_spec id r (j+1) with ⟨h1,h2⟩ | ⟨k,hk,h1,h2,h3⟩
   ·exact .inl ⟨by simp only [ixD,e,if_false];exact h1,by simp [List.any_cons,hasId,e];simpa [hasId] using h2⟩
   ·refine .inr ⟨k+1,by simp;omega,?_,by simpa using h2,?_⟩
    ·simp only [ixD,e,if_false,h1];congr 1;omega
    ·rw [List.take_succ_cons,List.any_cons,h3];simp [hasId,e]
theorem fnd_none_app {id:Int} {os m:List Od} (h:os.any (hasId id)=false):fnd (os++m) id=fnd m id:=by
 unfold fnd
 rw [List.find?_append]
 have:os.find? (hasId id)=none:=List.find?_eq_none.2 fun x hx hh=>by
  have:=List.any_eq_true.2 ⟨x,hx,hh⟩
  rw [h] at this;cases this
 rw [this];rfl
theorem fnd_at_app {id:Int} {os m:List Od} {k:Nat} (hk:k<os.length) (h1:os[k].1=id) (h2:(os.take k).any (hasId id)=false):fnd (os++m) id=some os[k]:=by
 have e0:os=os.take k++os[k] :: os.drop (k+1):=by rw [← drop_cons hk,List.take_append_drop]
 have e:os++m=os.take k++(os[k] :: (os.drop (k+1)++m)):=by
  conv=>lhs;rw [e0]
  rw [List.append_assoc,List.cons_append]
 rw [e,fnd_none_app h2]
 unfold fnd
 rw [List.find?_cons]
 have:hasId id os[k]=true:=by simpa [hasId] using h1
 rw [this]
theorem sameId_any (a b c d e id:Int) (g:Nat) (w:World) (hg:g<w.heap.size) (hc:w.cell? ⟨g,0,none⟩=some (.int .i64 id)):Calls Tryz.prog 232 #[.agg #[.int .i64 a,.int .i64 b,.int .i64 c,.int .i64 d,.int .i64 e],.pointer (some ⟨g,0,none⟩)] w fun x w'=>x=.returned (.bool (a==id))∧Below w.heap.size w w':=by
 have hne:g≠w.heap.size:=by omega
 go_enter Tryz.func232,Tryz.ntmps232
 go_wp2
 go_ret
 exact ⟨rfl,below1 _ _⟩
theorem sameId_is {a b c d e id:Int} {g:Nat} {w:World} {r:Bool} (hr:Hid ((a==id)=r)) (hg:g<w.heap.size) (hc:w.cell? ⟨g,0,none⟩=some (.int .i64 id)):Calls Tryz.prog 232 #[.agg #[.int .i64 a,.int .i64 b,.int .i64 c,.int .i64 d,.int .i64 e],.pointer (some ⟨g,0,none⟩)] w fun x w'=>x=.returned (.bool r)∧Below w.heap.size w w':=by
 rw [← hr.out];exact sameId_any a b c d e id g w hg hc
theorem indexFuncO_any (B:Bs) (os:List Od) (x:Value) (id:Int) (g:Nat) (w:World) (h:OL B os x w) (hm:os.length≤1000000) (hg:g<w.heap.size) (hc:w.cell? ⟨g,0,none⟩=some (.int .i64 id)) :
  Calls Tryz.prog 231 #[x,.func (.func 232) #[] #[.pointer (some ⟨g,0,none⟩)]] w fun e w'=>e=.returned (.int .i64 (ixD id os 0))∧Below w.heap.size w w':=by
 obtain ⟨a2,c2,rfl,hel⟩:=h
 obtain ⟨r,hr⟩:∃ r,ixD id (os.drop 0) 0=r:=⟨_,rfl⟩
 obtain ⟨m,hmm⟩:∃ m,m=os.length:=⟨_,rfl⟩
 have HE:=lH hel
 have HG:Hid (ixD id os 0=r):=lH hr
 have HR:=lH hr
 rw [← hmm] at hm ⊢
 have HM:=lH hmm
 have HF:=lH (show ∀ u,Below w.heap.size w u→g<u.heap.size∧u.cell? ⟨g,0,none⟩=some (.int .i64 id) from fun u hu=>⟨Nat.lt_of_lt_of_le hg hu.size,(hu.cell (p:=⟨g,0,none⟩) hg).trans hc⟩)
 clear hel hr hmm hc hg
 go_enter Tryz.func231,Tryz.ntmps231
 go_wp2
 go_loopw [5,8] (fun _ i wr=>∃ j:Nat,j≤m∧i=.int .i64 j∧Below w.heap.size w wr∧ixD id (os.drop j) j=r) (fun _ i _=>m - (intOf i).toNat)
 case atStart=>exact ⟨0,Nat.zero_le _,rfl,Below.refl _ _,HR.out⟩
 case round =>
  obtain ⟨j,hj,rfl,hb,hrj⟩:=hrel
  have HT:=lH hrj
  clear hrj
  by_cases hjm:j<m
  ·have hjm2:(j:Int)<m:=by omega
   have hjo:j<os.length:=by rw [← HM.out];exact hjm
   rcases HE.out with ⟨e,_⟩ | ⟨b2,off2,rfl,hat2⟩
   ·rw [e] at hjo;cases hjo
   ·have hat3:=Lies.keep eO 74 hat2 (Keeps.of_below hb)
    have hc5:=at5 hat3 j hjo
    have hb2:=hat3.1
    have hcons:=ixD_drop (id:=id) hjo
    obtain ⟨⟨o1,o2,o3,o4,o5⟩,ho⟩:∃ o,os[j]=o:=⟨_,rfl⟩
    rw [ho,HT.out] at hcons
    rw [ho] at hc5
    simp only at hc5 hcons
    obtain ⟨s0,s1,s2,s3,s4⟩:=hc5
    obtain ⟨hg1,hg2⟩:=HF.out _ hb
    clear ho hat2 hat3
    by_cases he:o1=id
    ·have hd:Hid ((o1==id)=true):=lH (by simpa using he)
     have HZ:Hid (r=(j:Int)):=lH (by rw [hcons,if_pos he])
     clear hcons he
     go_wp2_with fail
     refine (sameId_is hd hg1 hg2).mono ?_
     rintro e w' ⟨rfl,hb1⟩
     go_wp2
     go_ret
     exact ⟨ret_int (by rw [HG.out,HZ.out]),nx hb hb1⟩
    ·have hd:Hid ((o1==id)=false):=lH (by simpa using he)
     have HZ:Hid (ixD id (os.drop (j+1)) (j+1)=r):=lH (by rw [hcons,if_neg he])
     clear hcons he
     go_wp2_with fail
     refine (sameId_is hd hg1 hg2).mono ?_
     rintro e w' ⟨rfl,hb1⟩
     go_wp2
     go_roundw
     case rel=>exact ⟨j+1,by omega,by go_num,nx hb hb1,HZ.out⟩
     case measure=>simp [intOf];omega
  ·obtain rfl:j=m:=by omega
   have HZ:Hid (r=-1):=lH (by rw [← HT.out,HM.out,List.drop_length];rfl)
   clear hjm
   go_wp2
   go_ret
   exact ⟨ret_int (by rw [HG.out,HZ.out]),hb⟩
theorem indexOf_any (B:Bs) (os:List Od) (x:Value) (id:Int) (w:World) (h:OL B os x w) (hm:os.length≤1000000) :
  Calls Tryz.prog 212 #[x,.int .i64 id] w fun e w'=>e=.returned (.int .i64 (ixD id os 0))∧Below w.heap.size w w':=by
 have hbx:=below1 w (.cells #[.int .i64 id] 3)
 have h2:=Is.stays eO 74 h hbx
 clear h
 go_enter Tryz.func212,Tryz.ntmps212
 go_wp2_with fail
 refine (indexFuncO_any B os x id w.heap.size _ h2 hm (by simp) (by simp [go_sem])).mono ?_
 rintro e w' ⟨rfl,hb1⟩
 go_wp2
 go_ret
 exact ⟨rfl,nx hbx hb1⟩
theorem indexOf_is {B:Bs} {os:List Od} {x:Value} {id r:Int} {w:World} (hr:Hid (ixD id os 0=r)) (h:OL B os x w) (hm:os.length≤1000000) :
  Calls Tryz.prog 212 #[x,.int .i64 id] w fun e w'=>e=.returned (.int .i64 r)∧Below w.heap.size w w':=by
 rw [← hr.out];exact indexOf_any B os x id w h hm
end Go.Proofs.YtjhocpcpkemcaaaGreat.Le
