/- Package level as it landed: within, mayRest, isEmpty, aheadOn and its closure. -/
import Derived.Test.YtjhocpcpkemcaaaGreatQeZZ
import Derived.Test.YtjhocpcpkemcaaaGreatQeAP
set_option linter.unusedVariables false
set_option maxRecDepth 16000
set_option maxHeartbeats 32000000
namespace Go.Proofs.YtjhocpcpkemcaaaGreat.Le
open Go.RowKit
open Rw
open Da
def btw (n a b:Int):Bool:=decide (a≤n∧n≤b)
theorem within_any (n a b:Int) (w:World):Calls Tryz.prog 215 #[.int .i64 n,.int .i64 a,.int .i64 b] w fun e w'=>e=.returned (.bool (btw n a b))∧w=w':=by
 obtain ⟨q,hq⟩:∃ q,btw n a b=q:=⟨_,rfl⟩
 rw [hq]
 have H:=lH hq
 clear hq
 go_enter Tryz.func215,Tryz.ntmps215
 go_wp2
 all_goals
  go_ret
  exact ⟨ret_bool (by rw [← H.out];unfold btw;rw [Bool.eq_iff_iff];simp;try omega),rfl⟩
theorem within_is {n a b:Int} {r:Bool} (h:Hid (btw n a b=r)) (w:World):Calls Tryz.prog 215 #[.int .i64 n,.int .i64 a,.int .i64 b] w fun e w'=>e=.returned (.bool r)∧w=w':=by
 rw [← h.out];exact within_any n a b w
theorem omay_btw (a b c d e s:Int):omay (a,b,c,d,e) s=(decide (c=s)&&btw a 1 1073741824&&btw b 0 63&&btw d 1 1048576&&btw e 1 1048576):=by
 rw [Bool.eq_iff_iff];unfold omay btw;simp;omega
theorem mayRest_any (a b c d e s:Int) (w:World):Calls Tryz.prog 198 #[.agg #[.int .i64 a,.int .i64 b,.int .i64 c,.int .i64 d,.int .i64 e],.int .i64 s] w fun r w'=>r=.returned (.bool (omay (a,b,c,d,e) s))∧Below w.heap.size w w':=by
 rw [omay_btw]
 obtain ⟨q1,h1⟩:∃ q,btw a 1 1073741824=q:=⟨_,rfl⟩
 obtain ⟨q2,h2⟩:∃ q,btw b 0 63=q:=⟨_,rfl⟩
 obtain ⟨q3,h3⟩:∃ q,btw d 1 1048576=q:=⟨_,rfl⟩
 obtain ⟨q4,h4⟩:∃ q,btw e 1 1048576=q:=⟨_,rfl⟩
 rw [h1,h2,h3,h4]
 have H1:=lH h1
 have H2:=lH h2
 have H3:=lH h3
 have H4:=lH h4
 clear h1 h2 h3 h4
 by_cases hc:c=s
 ·have hd:(c==s)=true:=by simpa using hc
  have HD:Hid (decide (c=s)=true):=lH (by simpa using hc)
  clear hc
  cases q1<;>cases q2<;>cases q3<;>cases q4
  all_goals
   go_enter Tryz.func198,Tryz.ntmps198
   go_wp2_with (go_at_call 215;(first | with_reducible refine (within_is H1 _).mono ?_ | with_reducible refine (within_is H2 _).mono ?_ | with_reducible refine (within_is H3 _).mono ?_ | with_reducible refine (within_is H4 _).mono ?_);rintro e w' ⟨rfl,rfl⟩)
   go_ret
   exact ⟨ret_bool (by rw [HD.out];rfl),below1 _ _⟩
 ·have hd:(c==s)=false:=by simpa using hc
  have HD:Hid (decide (c=s)=false):=lH (by simpa using hc)
  clear hc
  go_enter Tryz.func198,Tryz.ntmps198
  go_wp2
  go_ret
  exact ⟨ret_bool (by rw [HD.out];rfl),below1 _ _⟩
theorem mayRest_is {a b c d e s:Int} {r:Bool} (h:Hid (omay (a,b,c,d,e) s=r)) (w:World):Calls Tryz.prog 198 #[.agg #[.int .i64 a,.int .i64 b,.int .i64 c,.int .i64 d,.int .i64 e],.int .i64 s] w fun x w'=>x=.returned (.bool r)∧Below w.heap.size w w':=by
 rw [← h.out];exact mayRest_any a b c d e s w
theorem isEmpty_any (p:Int) (a:Option Addr) (n c:Nat) (hn:n≤1000000) (w:World):Calls Tryz.prog 143 #[.agg #[.int .i64 p,.slice a n c]] w fun e w'=>e=.returned (.bool (decide (n=0)))∧Below w.heap.size w w':=by
 rcases Nat.eq_zero_or_pos n with h | h
 ·subst h
  go_enter Tryz.func143,Tryz.ntmps143
  go_wp2
  go_ret
  exact ⟨rfl,below1 _ _⟩
 ·have hd:((n:Int)==0)=false:=by simp;omega
  have H:Hid (decide (n=0)=false):=lH (by simp;omega)
  go_enter Tryz.func143,Tryz.ntmps143
  go_wp2
  go_ret
  exact ⟨ret_bool H.out.symm,below1 _ _⟩
def Ahd (s:Int) (v:Value) (w:World):Prop:=∃ b,v=.func (.func 197) #[] #[.pointer (some ⟨b,0,none⟩)]∧b<w.heap.size∧w.cell? ⟨b,0,none⟩=some (.int .i64 s)
theorem Ahd.stays {s:Int} {v:Value} {w w':World} (h:Ahd s v w) (hb:Below w.heap.size w w'):Ahd s v w':=by
 obtain ⟨b,hv,h1,h2⟩:=h
 exact ⟨b,hv,Nat.lt_of_lt_of_le h1 hb.size,(hb.cell (p:=⟨b,0,none⟩) h1).trans h2⟩
theorem aheadOn_any (s:Int) (w:World):Calls Tryz.prog 175 #[.int .i64 s] w (Post (Ahd s) w):=by
 go_enter Tryz.func175,Tryz.ntmps175
 go_wp2
 go_ret
 exact ⟨_,rfl,below1 _ _,w.heap.size,rfl,by simp,by simp [go_sem]⟩
theorem ahead_any (s a b:Int) (g:Nat) (w:World) (hg:g<w.heap.size) (hc:w.cell? ⟨g,0,none⟩=some (.int .i64 s)):Calls Tryz.prog 197 #[.int .i64 a,.int .i64 b,.pointer (some ⟨g,0,none⟩)] w fun e w'=>e=.returned (.bool (ahead s a b))∧w=w':=by
 by_cases h:s=1
 ·have hd:(s==1)=true:=by simpa using h
  have H:Hid (ahead s a b=decide (b<a)):=lH (if_pos h)
  clear h
  go_enter Tryz.func197,Tryz.ntmps197
  go_wp2
  go_ret
  exact ⟨ret_bool H.out.symm,rfl⟩
 ·have hd:(s==1)=false:=by simpa using h
  have H:Hid (ahead s a b=decide (a<b)):=lH (if_neg h)
  clear h
  go_enter Tryz.func197,Tryz.ntmps197
  go_wp2
  go_ret
  exact ⟨ret_bool H.out.symm,rfl⟩
def okO (s p:Int) (o:Od):Bool:=omay o s&&decide (opr o=p)
def lvB (s p:Int) (os:List Od):Bool:=os.all (okO s p)&&!os.isEmpty
def lvR (s p:Int) (os:List Od) (e:Bool):Bool:=os.all (okO s p)&&!e
theorem lvR_cons {s p:Int} {os:List Od} {e:Bool} {j:Nat} (h:j<os.length):lvR s p (os.drop j) e=(okO s p os[j]&&lvR s p (os.drop (j+1)) e):=by
 unfold lvR;rw [drop_cons h,List.all_cons,Bool.and_assoc]
theorem isLevel_any (B:Bs) (p s:Int) (os:List Od) (x:Value) (w:World) (h:OL B os x w) (hm:os.length≤1000000) :
  Calls Tryz.prog 176 #[.agg #[.int .i64 p,x],.int .i64 s] w fun e w'=>e=.returned (.bool (lvB s p os))∧Below w.heap.size w w':=by
 obtain ⟨a2,c2,rfl,hel⟩:=h
 obtain ⟨r,hr⟩:∃ r,lvR s p (os.drop 0) os.isEmpty=r:=⟨_,rfl⟩
 obtain ⟨m,hmm⟩:∃ m,m=os.length:=⟨_,rfl⟩
 have HE:=lH hel
 have HG:Hid (lvB s p os=r):=lH (by rw [← hr];rfl)
 have HR:=lH hr
 rw [← hmm] at hm ⊢
 have HM:=lH hmm
 have HN:Hid (os.isEmpty=decide (m=0)):=lH (by rw [hmm];cases os<;>simp)
 clear hel hr hmm
 go_enter Tryz.func176,Tryz.ntmps176
 go_wp2
 obtain ⟨V,hV⟩:∃ V,V=w.alloc (.cells #[.int .i64 p,.slice a2 m c2] 106):=⟨_,rfl⟩
 have hbV:Below w.heap.size w V:=hV ▸ below1 w _
 have hz:w.heap.size<V.heap.size:=by rw [hV];simp
 have HF:=lH (show ∀ u,Below V.heap.size V u→u.cell? ⟨w.heap.size,0,none⟩=some (.int .i64 p)∧u.cell? ⟨w.heap.size,1,none⟩=some (.slice a2 m c2)∧w.heap.size<u.heap.size from fun u hu=>by
  refine ⟨?_,?_,Nat.lt_of_lt_of_le hz hu.size⟩
  ·rw [hu.cell (p:=⟨w.heap.size,0,none⟩) hz,hV];simp [go_sem]
  ·rw [hu.cell (p:=⟨w.heap.size,1,none⟩) hz,hV];simp [go_sem])
 rw [← hV]
 clear hV
 go_loopw [10] (fun i wr=>∃ j:Nat,j≤m∧i=.int .i64 j∧Below V.heap.size V wr∧lvR s p (os.drop j) os.isEmpty=r) (fun i _=>m - (intOf i).toNat)
 case atStart=>exact ⟨0,Nat.zero_le _,rfl,Below.refl _ _,HR.out⟩
 case round =>
  obtain ⟨j,hj,rfl,hb,hrj⟩:=hrel
  obtain ⟨k0,k1,k2⟩:=HF.out _ hb
  have HT:=lH hrj
  clear hrj
  by_cases hjm:j<m
  ·have hjm2:(j:Int)<m:=by omega
   have hjo:j<os.length:=by rw [← HM.out];exact hjm
   rcases HE.out with ⟨e,_⟩ | ⟨b2,off2,rfl,hat2⟩
   ·rw [e] at hjo;cases hjo
   ·have hat3:=Lies.keep eO 74 hat2 (Keeps.of_below (nx hbV hb))
    have hc5:=at5 hat3 j hjo
    have hb2:=hat3.1
    have hcons:=lvR_cons (s:=s) (p:=p) (e:=os.isEmpty) hjo
    obtain ⟨⟨o1,o2,o3,o4,o5⟩,ho⟩:∃ o,os[j]=o:=⟨_,rfl⟩
    rw [ho] at hc5 hcons
    simp only at hc5
    obtain ⟨s0,s1,s2,s3,s4⟩:=hc5
    have HC:Hid ((okO s p (o1,o2,o3,o4,o5)&&lvR s p (os.drop (j+1)) os.isEmpty)=r):=lH (by rw [← hcons];exact HT.out)
    clear hcons ho hat2 hat3
    obtain ⟨q,hq⟩:∃ q,omay (o1,o2,o3,o4,o5) s=q:=⟨_,rfl⟩
    have HQ:=lH hq
    clear hq
    have hbx:=below1 wr (.cells #[.int .i64 o1,.int .i64 o2,.int .i64 o3,.int .i64 o4,.int .i64 o5] 74)
    cases q
    ·have HZ:Hid (r=false):=lH (by rw [← HC.out];unfold okO;rw [HQ.out];rfl)
     go_wp2_with fail
     refine (mayRest_is HQ _).mono ?_
     rintro e w' ⟨rfl,hb1⟩
     have hb3:=nx hbx hb1
     go_wp2
     go_ret
     exact ⟨ret_bool (by rw [HG.out,HZ.out]),nx hbV (nx hb hb3)⟩
    ·by_cases hp:o4=p
     ·have hd:(o4==p)=true:=by simpa using hp
      have hd':(o4 != p)=false:=by simpa using hp
      have HZ:Hid (lvR s p (os.drop (j+1)) os.isEmpty=r):=lH (by rw [← HC.out];unfold okO opr;rw [HQ.out];simp [hp])
      clear hp
      go_wp2_with fail
      refine (mayRest_is HQ _).mono ?_
      rintro e w' ⟨rfl,hb1⟩
      have hb3:=nx hbx hb1
      obtain ⟨c1,f1,r1,p1⟩:=bcell hb1
      obtain ⟨k3,k4,k5⟩:=HF.out _ (nx hb hb3)
      go_wp2
      go_roundw
      case rel=>exact ⟨j+1,by omega,by go_num,nx hb hb3,HZ.out⟩
      case measure=>simp [intOf];omega
     ·have hd:(o4==p)=false:=by simpa using hp
      have hd':(o4 != p)=true:=by simpa using hp
      have HZ:Hid (r=false):=lH (by rw [← HC.out];unfold okO opr;simp [hp])
      clear hp
      go_wp2_with fail
      refine (mayRest_is HQ _).mono ?_
      rintro e w' ⟨rfl,hb1⟩
      have hb3:=nx hbx hb1
      obtain ⟨c1,f1,r1,p1⟩:=bcell hb1
      obtain ⟨k3,k4,k5⟩:=HF.out _ (nx hb hb3)
      go_wp2
      go_ret
      exact ⟨ret_bool (by rw [HG.out,HZ.out]),nx hbV (nx hb hb3)⟩
  ·obtain rfl:j=m:=by omega
   have HZ:Hid (r=!decide (j=0)):=lH (by rw [← HT.out,← HN.out,HM.out,List.drop_length];rfl)
   clear hjm
   go_wp2_with fail
   refine (isEmpty_any _ _ _ _ hm _).mono ?_
   rintro e w' ⟨rfl,hb1⟩
   go_wp2
   go_ret
   exact ⟨ret_bool (by rw [HG.out,HZ.out]),nx hbV (nx hb hb1)⟩
theorem isLevel_is {B:Bs} {p s:Int} {os:List Od} {x:Value} {w:World} {r:Bool} (hr:Hid (lvB s p os=r)) (h:OL B os x w) (hm:os.length≤1000000) :
  Calls Tryz.prog 176 #[.agg #[.int .i64 p,x],.int .i64 s] w fun e w'=>e=.returned (.bool r)∧Below w.heap.size w w':=by
 rw [← hr.out];exact isLevel_any B p s os x w h hm
theorem ords_big (B:Bs) (l:List Lv) (v:Value) (w:World) (h:LL B l v w) (hB:B.le w.heap.size) (hm:l.length≤1000000) (hf:(flat l).length≤1000000) :
  Calls Tryz.prog 36 #[v] w (Post (OL B (flat l)) w):=by
 rcases h.cases with ⟨rfl,a,c,rfl⟩ | ⟨hne,b,off,c,rfl,hat⟩
 ·clear h
  have hd:decide ((0:Int)<0)=false:=by decide
  go_enter Tryz.func36,Tryz.ntmps36
  go_wp2
  go_loopw [3,9] (fun t i wr=>i=.int .i64 0∧t=.slice (some ⟨w.heap.size,0,none⟩) 0 0∧Below w.heap.size w wr) (fun _ i _=>0)
  case atStart=>exact ⟨rfl,rfl,below1 _ _⟩
  case round =>
   obtain ⟨rfl,rfl,hb⟩:=hrel
   go_wp2
   go_ret
   exact ⟨_,rfl,hb,Is.empty _ _ _ _ _ _⟩
 ·have hbb:b<w.heap.size:=hat.1
  have HA:=lH hat
  have HF:=lH hf
  obtain ⟨n,hn⟩:∃ n,n=l.length:=⟨_,rfl⟩
  rw [← hn] at hm ⊢
  have HN:=lH hn
  clear h hat hn hne hf
  go_enter Tryz.func36,Tryz.ntmps36
  go_wp2
  go_loopw [3,9] (fun t i wr=>∃ k:Nat,k≤n∧i=.int .i64 k∧Below w.heap.size w wr∧OwnO B w.heap.size (flat (l.take k)) t wr) (fun _ i _=>n - (intOf i).toNat)
  case atStart=>exact ⟨0,Nat.zero_le _,rfl,below1 _ _,Own.made _ _ _ (Nat.le_refl _)⟩
  case round =>
   obtain ⟨k,hk,rfl,hb,hown⟩:=hrel
   have HO:=lH hown
   clear hown
   by_cases hlt:k<n
   ·have hlt2:(k:Int)<n:=by omega
    have hkl:k<l.length:=by rw [← HN.out];exact hlt
    obtain ⟨x,q0,q1,hx⟩:=atL HA.out k hkl
    obtain ⟨c1,f1,r1,p1⟩:=bcell hb
    obtain ⟨⟨pr,os⟩,hlk⟩:∃ y,l[k]=y:=⟨_,rfl⟩
    have ht:=flat_take_snoc hkl
    have hle:=flat_take_le l (k+1)
    rw [hlk] at q0 hx ht
    simp only at q0 hx ht
    have HT:=lH ht
    have hs:(flat (l.take k)).length+os.length≤1000000:=by rw [ht,List.length_append] at hle;have:=HF.out;omega
    clear ht hle hlk
    obtain ⟨a2,c2,rfl⟩:=hx.len
    obtain ⟨V,hV⟩:∃ V,V=wr.alloc (.cells #[.int .i64 pr,.slice a2 os.length c2] 106):=⟨_,rfl⟩
    have hbV:Below wr.heap.size wr V:=hV ▸ below1 wr _
    have hsz:=hb.size
    have hzV:wr.heap.size<V.heap.size:=by rw [hV];simp
    have hbw:=nx hb hbV
    have HX:=lH (Is.stays eO 74 (Is.stays eO 74 hx hb) hbV)
    obtain ⟨v2,w2,hrun,hown2,_,hbl,_⟩:=Own.append elemO 71 typesO hB (by omega) (HO.out.stays hbV) HX.out (by omega)  (by omega)
    have HO3:Hid (OwnO B w.heap.size (flat (l.take (k+1))) v2 w2):=lH (by rw [HT.out];exact hown2)
    have hb2:=hbl _ _ (Nat.le_refl _) hbw
    rw [hV] at hrun
    clear hown2 hbl hV
    go_wp2
    go_roundw
    case rel=>exact ⟨k+1,by omega,by go_num,hb2,HO3.out⟩
    case measure=>simp [intOf];omega
   ·obtain rfl:k=n:=by omega
    have e1:l.take k=l:=by rw [HN.out,List.take_length]
    have ho:=HO.out
    rw [e1] at ho
    have HZ:=lH ho
    clear ho e1
    go_wp2
    go_ret
    exact ⟨_,rfl,hb,HZ.out.is (by decide) hB⟩
theorem count_big (B:Bs) (l:List Lv) (v:Value) (w:World) (h:LL B l v w) (hm:l.length≤1000000) (hf:(flat l).length≤1000000) :
  Calls Tryz.prog 174 #[v] w fun e w'=>e=.returned (.int .i64 ((flat l).length:Nat))∧Below w.heap.size w w':=by
 rcases h.cases with ⟨rfl,a,c,rfl⟩ | ⟨hne,b,off,c,rfl,hat⟩
 ·clear h
  go_enter Tryz.func174,Tryz.ntmps174
  go_wp2
  go_loopw [3,8] (fun t i wr=>i=.int .i64 0∧t=.int .i64 0∧Below w.heap.size w wr) (fun _ i _=>0)
  case atStart=>exact ⟨rfl,rfl,Below.refl _ _⟩
  case round =>
   obtain ⟨rfl,rfl,hb⟩:=hrel
   go_wp2
   go_ret
   exact ⟨rfl,hb⟩
 ·have hbb:b<w.heap.size:=hat.1
  have HA:=lH hat
  have HF:=lH hf
  obtain ⟨n,hn⟩:∃ n,n=l.length:=⟨_,rfl⟩
  rw [← hn] at hm ⊢
  have HN:=lH hn
  clear h hat hn hne hf
  go_enter Tryz.func174,Tryz.ntmps174
  go_wp2
  go_loopw [3,8] (fun t i wr=>∃ k:Nat,k≤n∧i=.int .i64 k∧t=.int .i64 ((flat (l.take k)).length:Nat)∧Below w.heap.size w wr) (fun _ i _=>n - (intOf i).toNat)
  case atStart=>exact ⟨0,Nat.zero_le _,rfl,rfl,Below.refl _ _⟩
  case round =>
   obtain ⟨k,hk,rfl,rfl,hb⟩:=hrel
   by_cases hlt:k<n
   ·have hlt2:(k:Int)<n:=by omega
    have hkl:k<l.length:=by rw [← HN.out];exact hlt
    obtain ⟨x,q0,q1,hx⟩:=atL HA.out k hkl
    obtain ⟨a,cc,rfl⟩:=hx.len
    have ht:=count_take hkl
    have hle:=flat_take_le l (k+1)
    obtain ⟨m,hmm⟩:∃ m,l[k].2.length=m:=⟨_,rfl⟩
    rw [hmm] at ht q1
    have hs:(flat (l.take k)).length+m≤1000000:=by have:=HF.out;omega
    have HT:=lH ht
    obtain ⟨c1,f1,r1,p1⟩:=bcell hb
    clear ht hle hmm hx
    go_wp2
    go_roundw
    case rel=>exact ⟨k+1,by omega,by go_num,by rw [HT.out];go_num,nx hb (below1 _ _)⟩
    case measure=>simp [intOf];omega
   ·obtain rfl:k=n:=by omega
    have HZ:Hid ((flat (l.take k)).length=(flat l).length):=lH (by rw [HN.out,List.take_length])
    go_wp2
    go_ret
    exact ⟨ret_int (by rw [HZ.out]),hb⟩
end Go.Proofs.YtjhocpcpkemcaaaGreat.Le
