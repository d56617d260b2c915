/- own; same of the statements. -/
import Derived.Test.YthecinmekoaphaaGreatQbZZ
import Derived.Test.YthecinmekoaphaaGreatQbAQ
import Derived.Test.YthecinmekoaphaaGreatQbAI
set_option linter.unusedVariables false
set_option maxRecDepth 16000
set_option maxHeartbeats 32000000
namespace Go.Proofs.YthecinmekoaphaaGreat.Ac
open Go.RowKit
open Rw
open Sl
variable {lo : Nat}
theorem flat_inv (l : List Hd) : ∀ (j : Nat) (u : Value),(l.flatMap enc)[j]?=some u→∃ i x j',l[i]?=some x∧(enc x)[j']?=some u∧j=i*3+j':=by
 induction l with
 | nil=>intro j u h;simp at h
 | cons y l ih =>
  intro j u h
  rw [List.flatMap_cons] at h
  by_cases hj : j<3
  ·rw [List.getElem?_append_left (by rw [enc_len];exact hj)] at h
   exact ⟨0,y,j,rfl,h,by omega⟩
  ·rw [List.getElem?_append_right (by rw [enc_len];omega),enc_len] at h
   obtain ⟨i,x,j',h1,h2,h3⟩:=ih _ _ h
   exact ⟨i+1,x,j',by simpa using h1,h2,by omega⟩
theorem at_flat {l : List Hd} {b off : Nat} {w : World} (h : At enc 3 l b off w) (j : Nat) (u : Value) (hu : (l.flatMap enc)[j]?=some u) : w.cell? ((⟨b,off,none⟩ : Addr).add j)=some u:=by
 obtain ⟨i,x,j',h1,h2,rfl⟩:=flat_inv l j u hu
 have:=h.2 i x h1 j' u h2
 have e : (⟨b,off,none⟩ : Addr).add (i*3+j')=⟨b,off+i*3+j',none⟩:=by
  unfold Addr.add
  split
  ·rename_i h;rw [Nat.add_assoc,h];rfl
  ·simp [Nat.add_assoc]
 rw [e];exact this
theorem flat_one (l : List Hd) : ∀ u∈l.flatMap enc,u.oneCell'=true:=by
 intro u hu
 obtain ⟨x,_,hx⟩:=List.mem_flatMap.1 hu
 simp [enc] at hx
 rcases hx with rfl | rfl | rfl<;>rfl
theorem flat3 (l : List Hd) : (l.flatMap enc).length=l.length*3:=flat_len enc 3 enc_len
theorem own_any (l : List Hd) (v : Value) (w : World) (h : HL lo l v w) (hm : l.length≤1000000) :
  Calls Tryz.prog 79 #[v] w (Post (HL lo l) w):=by
 rcases h.cases with ⟨rfl,a,c,rfl⟩ | ⟨hne,b,off,c,rfl,hat⟩
 ·clear h
  cases a
  ·go_enter Tryz.func79,Tryz.ntmps79
   go_wp2
   go_ret
   exact ⟨_,rfl,below1 _ _,SL.empty enc 3 55 _ _ _⟩
  ·go_enter Tryz.func79,Tryz.ntmps79
   go_wp2
   go_ret
   exact ⟨_,rfl,below1 _ _,SL.empty enc 3 55 _ _ _⟩
 ·have HA:=lH hat
  obtain ⟨i0,hi,hz0,hz1,hz2⟩:=info_parts infoH
  obtain ⟨n,hn⟩ : ∃ n,n=l.length:=⟨_,rfl⟩
  rw [← hn] at hm ⊢
  have HN:=lH hn
  have hf:=flat3 l
  rw [← hn] at hf
  have HF:=lH hf
  have h1:=lH (flat_one l)
  clear h hat hn hne hf
  go_enter Tryz.func79,Tryz.ntmps79
  have HB:=lH (HA.out.stays enc 3 (below1 w (.cells #[] 55)))
  have hmade:=World.ownsRow_made (base:=w.heap.size) (e:=55) (size:=3) w #[] 0 (Nat.le_refl _) (by unfold maxLen;omega) rfl
  have HMd:=lH hmade
  clear hmade
  go_wp2_with (at_builtin;refine wpList_append_own _ rfl _ _ 26 rfl w.heap.size 55 i0 (.agg #[.int .i64 0,.int .i64 0,.int .i64 0]) 3 24 Tryz.underlying26 hi hz0 hz1 hz2 rfl (by decide) _ _ _ rfl HMd.out ⟨b,off,none⟩ n c (l.flatMap enc) rfl HF.out (at_flat HB.out) h1.out ?c3 ?c4 ?c5 ?_)
  case c3=>unfold maxLen;omega
  case c4=>omega
  case c5=>simp
  intro v2 w2 hown hg _
  have hb2 : Below w.heap.size w w2:=(below1 w (.cells #[] 55)).grown hg (by simp) (fun k hk=>((HMd.out).lt k hk).1)
  have HO : Hid (Own w.heap.size l v2 w2):=lH (by unfold Own;rw [← HN.out];simpa using hown)
  clear hown hg
  go_wp2
  go_ret
  exact ⟨_,rfl,hb2,HO.out.hl⟩
end Go.Proofs.YthecinmekoaphaaGreat.Ac
namespace Go.Proofs.YthecinmekoaphaaGreat.Ac
open Go.RowKit
open Rw
open Sl
variable {lo : Nat}
theorem Own.below {B : Nat} {l : List Hd} {v : Value} {w w' : World} (h : Own B l v w) (k : Below w.heap.size w w') : Own B l v w' :=
 World.ownsRow.kept (row:=none) h ⟨k.os,k.tape,k.output,k.size,fun i hi _=>k.block i hi⟩ (by
  cases e : v.ownBlock
  ·exact .inl rfl
  ·exact .inr (fun x=>by cases x))
theorem grown_cell {w w' : World} {v : Value} {b : Nat} (hg : w.grownBy w' v.ownBlock) (hne : v.ownBlock≠some b) (hb : b<w.heap.size) (o : Nat) : w'.cell? ⟨b,o,none⟩=w.cell? ⟨b,o,none⟩ :=
 World.cell?_of_block (w:=w) (hg.block b hb (fun e=>hne e.symm))
theorem own_ne {B : Nat} {l : List Hd} {v : Value} {w : World} (h : Own B l v w) {b : Nat} (hb : w.heap.size≤b) : v.ownBlock≠some b:=fun e=>by
 have:=(World.ownsRow.lt h b e).2;omega
theorem setF_step (p : Pu) (n : Int) {l : List Hd} {k : Nat} (h : k<l.length) (d : Bool) : setF p n (l.drop k) d=(if !d&&!pless (key l[k]) p then [(p.1,p.2,n)] else [])++(if key l[k]=p then [] else [l[k]])++setF p n (l.drop (k+1)) (d||!pless (key l[k]) p):=by
 rw [List.drop_eq_getElem_cons h,setF]
theorem set_any (l : List Hd) (v : Value) (p q n : Int) (w : World) (h : HL lo l v w) (hm : l.length≤1000000) :
  Calls Tryz.prog 81 #[v,.agg #[.int .i64 p,.int .i64 q],.int .i64 n] w (Post (HL lo (set l (p,q) n)) w):=by
 obtain ⟨i0,hi,hz0,hz1,hz2⟩:=info_parts infoH
 obtain ⟨a,c,rfl,hdis⟩:=h
 have HD:=lH hdis
 obtain ⟨m,hmn⟩ : ∃ m,m=l.length:=⟨_,rfl⟩
 rw [← hmn] at hm ⊢
 have HN:=lH hmn
 clear hdis hmn
 obtain ⟨d0,hd0⟩ : ∃ d,(n==0)=d:=⟨_,rfl⟩
 have HS : Hid (set l (p,q) n=setF (p,q) n l d0):=lH (by unfold set;rw [hd0])
 go_enter Tryz.func81,Tryz.ntmps81
 go_wp2
 obtain ⟨W,hW⟩ : ∃ W,W=w.alloc (.cells #[.int .i64 p,.int .i64 q] 53):=⟨_,rfl⟩
 have kp : W.cell? ⟨w.heap.size,0,none⟩=some (.int .i64 p):=by rw [hW];simp [go_sem]
 have kq : W.cell? ⟨w.heap.size,1,none⟩=some (.int .i64 q):=by rw [hW];simp [go_sem]
 have hb0 : Below w.heap.size w W:=hW ▸ below1 w _
 have hz : w.heap.size<W.heap.size:=by rw [hW];simp
 rw [← hW]
 clear hW hd0
 go_loopw [7,8,15] (fun t d i wr=>∃ (k : Nat) (o : List Hd) (e : Bool),k≤m∧i=.int .i64 k∧d=.bool e∧Below W.heap.size W wr∧Own W.heap.size o t wr∧o.length≤2*k∧o++setF (p,q) n (l.drop k) e=setF (p,q) n l d0) (fun _ _ i _=>m - (intOf i).toNat)
 case atStart=>exact ⟨0,[],d0,Nat.zero_le _,rfl,rfl,Below.refl _ _,Own.nil _ _,Nat.zero_le _,rfl⟩
 case round =>
  obtain ⟨k,o,e,hk,rfl,rfl,hb,hown,hol,hset⟩:=hrel
  have HO:=lH hown
  have HT:=lH hset
  have hsz:=hb.size
  clear hown hset
  obtain ⟨c1,f1,r1,p1⟩:=bcell hb
  by_cases hlt : k<m
  ·have hlt2 : (k : Int)<m:=by omega
   have hkl : k<l.length:=by rw [← HN.out];exact hlt
   obtain ⟨b,off,rfl,hat⟩ : ∃ b off,a=some ⟨b,off,none⟩∧At enc 3 l b off w:=by
    rcases HD.out with ⟨e,_⟩ | ⟨b,off,ha,_,hat⟩
    ·rw [e] at hkl;exact absurd hkl (by simp)
    ·exact ⟨b,off,ha,hat⟩
   have hbb:=hat.1
   have hcw:=at3 hat k hkl
   have hst:=setF_step (p,q) n hkl e
   obtain ⟨⟨x,y,z⟩,hx⟩ : ∃ x,l[k]=x:=⟨_,rfl⟩
   rw [hx] at hcw hst
   simp only at hcw
   obtain ⟨g0,g1,g2⟩:=hcw
   have hlw:=(bcell hb0).1
   have q0 : W.cell? ⟨b,off+k*3,none⟩=some (.int .i64 x):=by rw [hlw _ _ hbb];exact g0
   have q1 : W.cell? ⟨b,off+k*3+1,none⟩=some (.int .i64 y):=by rw [hlw _ _ hbb];exact g1
   have q2 : W.cell? ⟨b,off+k*3+2,none⟩=some (.int .i64 z):=by rw [hlw _ _ hbb];exact g2
   have hbW : b<W.heap.size:=by omega
   have hzw : w.heap.size<wr.heap.size:=by omega
   have HST : Hid (setF (p,q) n (l.drop k) e=(if !e&&!pless (x,y) (p,q) then [(p,q,n)] else [])++(if (x,y)=(p,q) then [] else [(x,y,z)])++setF (p,q) n (l.drop (k+1)) (e||!pless (x,y) (p,q))):=lH hst
   clear hst hx hat hlw g0 g1 g2
   cases e
   ·cases hl : pless (x,y) (p,q)
    ·have HL:=lH hl
     have HST2 : Hid (setF (p,q) n (l.drop k) false=[(p,q,n)]++(if (x,y)=(p,q) then [] else [(x,y,z)])++setF (p,q) n (l.drop (k+1)) true):=lH (by rw [HST.out,hl];rfl)
     clear hl
     cases he : eqP (x,y) (p,q)
     ·have hne : (x,y)≠(p,q):=fun k=>by rw [eqP_iff.2 k] at he;cases he
      have HS2 : Hid ((o++[(p,q,n)]++[(x,y,z)])++setF (p,q) n (l.drop (k+1)) true=setF (p,q) n l d0):=lH (by rw [← HT.out,HST2.out,if_neg hne];simp)
      clear hne
      go_wp2_with fail
      obtain ⟨V,hV⟩ : ∃ V,V=wr.alloc (.cells #[.int .i64 x,.int .i64 y,.int .i64 z] 55):=⟨_,rfl⟩
      have hbV : Below wr.heap.size wr V:=hV ▸ below1 wr _
      have hzV : wr.heap.size<V.heap.size:=by rw [hV];simp
      have v0 : V.cell? ⟨wr.heap.size,0,none⟩=some (.int .i64 x):=by rw [hV];simp [go_sem]
      have v1 : V.cell? ⟨wr.heap.size,1,none⟩=some (.int .i64 y):=by rw [hV];simp [go_sem]
      have v2 : V.cell? ⟨wr.heap.size,2,none⟩=some (.int .i64 z):=by rw [hV];simp [go_sem]
      rw [← hV]
      clear hV
      refine (less_is HL _).mono ?_
      rintro e w3 ⟨rfl,hb3⟩
      have cl:=(bcell hb3).1
      have s0 : w3.cell? ⟨wr.heap.size,0,none⟩=some (.int .i64 x):=by rw [cl _ _ hzV];exact v0
      have s1 : w3.cell? ⟨wr.heap.size,1,none⟩=some (.int .i64 y):=by rw [cl _ _ hzV];exact v1
      have s2 : w3.cell? ⟨wr.heap.size,2,none⟩=some (.int .i64 z):=by rw [cl _ _ hzV];exact v2
      have hbw3 : Below W.heap.size W w3:=nx hb (nx hbV hb3)
      have t0 : w3.cell? ⟨w.heap.size,0,none⟩=some (.int .i64 p):=by rw [hbw3.cell (p:=⟨w.heap.size,0,none⟩) hz];exact kp
      have t1 : w3.cell? ⟨w.heap.size,1,none⟩=some (.int .i64 q):=by rw [hbw3.cell (p:=⟨w.heap.size,1,none⟩) hz];exact kq
      have hs3 : wr.heap.size<w3.heap.size:=by have:=hb3.size;omega
      have hsW : W.heap.size≤w3.heap.size:=hbw3.size
      have HO3:=lH (Own.below HO.out (nx hbV hb3))
      have hne3 : u7.ownBlock≠some wr.heap.size:=own_ne HO.out (Nat.le_refl _)
      have HNE:=lH hne3
      clear c1 f1 r1 p1 v0 v1 v2 hbV hb3 cl q0 q1 q2 hne3
      have hbA:=hbw3.alloc hsW (.cells #[.int .i64 p,.int .i64 q,.int .i64 n] 55)
      go_wp2_with (at_builtin;refine wpList_append_own _ rfl _ _ 26 rfl (W.heap.size) 55 i0 (.agg #[.int .i64 0,.int .i64 0,.int .i64 0]) 3 24 Tryz.underlying26 hi hz0 hz1 hz2 rfl (by decide) _ _ _ rfl (HO3.out.alloc _) (⟨w3.heap.size,0,none⟩) 1 1 (enc (p,q,n)) rfl rfl ?c1 ?c2 ?c3 ?c4 ?c5 ?_)
      case c1=>intro j u hj;rcases j with _ | _ | _ | _ | _ | _<;>simp [enc] at hj<;>subst hj<;>simp [Addr.add,go_sem]
      case c2=>intro u hu;simp [enc] at hu;rcases hu with rfl | rfl | rfl<;>rfl
      case c3=>unfold maxLen;omega
      case c4=>omega
      case c5=>have:=(hbA).size;simp at this ⊢;omega
      intro v4 w4 hown4 hg_ _
      have hb4:=(hbA).grown hg_ (by have:=(hbA).size;simp at this ⊢;omega) (fun k_ hk_=>((HO3.out).lt k_ hk_).1)
      have hg4:=hg_
      have ho2 : (o++[(p,q,n)]).length≤2*k+1:=by rw [List.length_append];simp;omega
      obtain ⟨o2,hoe⟩ : ∃ o2,o++[(p,q,n)]=o2:=⟨_,rfl⟩
      have HO4 : Hid (Own W.heap.size o2 v4 w4):=lH (hoe ▸ Own.snoc hown4)
      rw [hoe] at HS2 ho2
      clear hoe
      have hz4 : wr.heap.size<(w3.alloc (.cells #[.int .i64 p,.int .i64 q,.int .i64 n] 55)).heap.size:=by simp;omega
      have r0 : w4.cell? ⟨wr.heap.size,0,none⟩=some (.int .i64 x):=by rw [grown_cell hg4 HNE.out hz4];simp [go_sem,hs3,s0]
      have r1 : w4.cell? ⟨wr.heap.size,1,none⟩=some (.int .i64 y):=by rw [grown_cell hg4 HNE.out hz4];simp [go_sem,hs3,s1]
      have r2 : w4.cell? ⟨wr.heap.size,2,none⟩=some (.int .i64 z):=by rw [grown_cell hg4 HNE.out hz4];simp [go_sem,hs3,s2]
      have t4 : w4.cell? ⟨w.heap.size,0,none⟩=some (.int .i64 p):=by rw [hb4.cell (p:=⟨w.heap.size,0,none⟩) hz];exact kp
      have t5 : w4.cell? ⟨w.heap.size,1,none⟩=some (.int .i64 q):=by rw [hb4.cell (p:=⟨w.heap.size,1,none⟩) hz];exact kq
      have hs4:=hb4.size
      clear hown4 hg_ hg4 hbA hz4 s0 s1 s2 t0 t1
      have hbA2:=hb4.alloc hs4 (.cells #[.int .i64 x,.int .i64 y,.int .i64 z] 55)
      go_wp2_with (at_builtin;refine wpList_append_own _ rfl _ _ 26 rfl (W.heap.size) 55 i0 (.agg #[.int .i64 0,.int .i64 0,.int .i64 0]) 3 24 Tryz.underlying26 hi hz0 hz1 hz2 rfl (by decide) _ _ _ rfl (HO4.out.alloc _) (⟨w4.heap.size,0,none⟩) 1 1 (enc (x,y,z)) rfl rfl ?c1 ?c2 ?c3 ?c4 ?c5 ?_)
      case c1=>intro j u hj;rcases j with _ | _ | _ | _ | _ | _<;>simp [enc] at hj<;>subst hj<;>simp [Addr.add,go_sem]
      case c2=>intro u hu;simp [enc] at hu;rcases hu with rfl | rfl | rfl<;>rfl
      case c3=>unfold maxLen;omega
      case c4=>omega
      case c5=>have:=(hbA2).size;simp at this ⊢;omega
      intro v5 w5 hown5 hg_ _
      have hb5:=(hbA2).grown hg_ (by have:=(hbA2).size;simp at this ⊢;omega) (fun k_ hk_=>((HO4.out).lt k_ hk_).1)
      clear hg_
      have HO5 : Hid (Own W.heap.size (o2++[(x,y,z)]) v5 w5):=lH (Own.snoc hown5)
      clear hown5 hbA2
      go_wp2
      go_roundw
      case rel=>exact ⟨k+1,o2++[(x,y,z)],true,by omega,by go_num,rfl,hb5,HO5.out,by rw [List.length_append];simp;omega,HS2.out⟩
      case measure=>simp [intOf];omega
     ·have HS2 : Hid ((o++[(p,q,n)])++setF (p,q) n (l.drop (k+1)) true=setF (p,q) n l d0):=lH (by rw [← HT.out,HST2.out,if_pos (eqP_iff.1 he)];simp)
      go_wp2_with fail
      obtain ⟨V,hV⟩ : ∃ V,V=wr.alloc (.cells #[.int .i64 x,.int .i64 y,.int .i64 z] 55):=⟨_,rfl⟩
      have hbV : Below wr.heap.size wr V:=hV ▸ below1 wr _
      have hzV : wr.heap.size<V.heap.size:=by rw [hV];simp
      have v0 : V.cell? ⟨wr.heap.size,0,none⟩=some (.int .i64 x):=by rw [hV];simp [go_sem]
      have v1 : V.cell? ⟨wr.heap.size,1,none⟩=some (.int .i64 y):=by rw [hV];simp [go_sem]
      have v2 : V.cell? ⟨wr.heap.size,2,none⟩=some (.int .i64 z):=by rw [hV];simp [go_sem]
      rw [← hV]
      clear hV
      refine (less_is HL _).mono ?_
      rintro e w3 ⟨rfl,hb3⟩
      have cl:=(bcell hb3).1
      have s0 : w3.cell? ⟨wr.heap.size,0,none⟩=some (.int .i64 x):=by rw [cl _ _ hzV];exact v0
      have s1 : w3.cell? ⟨wr.heap.size,1,none⟩=some (.int .i64 y):=by rw [cl _ _ hzV];exact v1
      have s2 : w3.cell? ⟨wr.heap.size,2,none⟩=some (.int .i64 z):=by rw [cl _ _ hzV];exact v2
      have hbw3 : Below W.heap.size W w3:=nx hb (nx hbV hb3)
      have t0 : w3.cell? ⟨w.heap.size,0,none⟩=some (.int .i64 p):=by rw [hbw3.cell (p:=⟨w.heap.size,0,none⟩) hz];exact kp
      have t1 : w3.cell? ⟨w.heap.size,1,none⟩=some (.int .i64 q):=by rw [hbw3.cell (p:=⟨w.heap.size,1,none⟩) hz];exact kq
      have hs3 : wr.heap.size<w3.heap.size:=by have:=hb3.size;omega
      have hsW : W.heap.size≤w3.heap.size:=hbw3.size
      have HO3:=lH (Own.below HO.out (nx hbV hb3))
      have hne3 : u7.ownBlock≠some wr.heap.size:=own_ne HO.out (Nat.le_refl _)
      have HNE:=lH hne3
      clear c1 f1 r1 p1 v0 v1 v2 hbV hb3 cl q0 q1 q2 hne3
      have hbA:=hbw3.alloc hsW (.cells #[.int .i64 p,.int .i64 q,.int .i64 n] 55)
      go_wp2_with (at_builtin;refine wpList_append_own _ rfl _ _ 26 rfl (W.heap.size) 55 i0 (.agg #[.int .i64 0,.int .i64 0,.int .i64 0]) 3 24 Tryz.underlying26 hi hz0 hz1 hz2 rfl (by decide) _ _ _ rfl (HO3.out.alloc _) (⟨w3.heap.size,0,none⟩) 1 1 (enc (p,q,n)) rfl rfl ?c1 ?c2 ?c3 ?c4 ?c5 ?_)
      case c1=>intro j u hj;rcases j with _ | _ | _ | _ | _ | _<;>simp [enc] at hj<;>subst hj<;>simp [Addr.add,go_sem]
      case c2=>intro u hu;simp [enc] at hu;rcases hu with rfl | rfl | rfl<;>rfl
      case c3=>unfold maxLen;omega
      case c4=>omega
      case c5=>have:=(hbA).size;simp at this ⊢;omega
      intro v4 w4 hown4 hg_ _
      have hb4:=(hbA).grown hg_ (by have:=(hbA).size;simp at this ⊢;omega) (fun k_ hk_=>((HO3.out).lt k_ hk_).1)
      have hg4:=hg_
      have HO4 : Hid (Own W.heap.size (o++[(p,q,n)]) v4 w4):=lH (Own.snoc hown4)
      have hz4 : wr.heap.size<(w3.alloc (.cells #[.int .i64 p,.int .i64 q,.int .i64 n] 55)).heap.size:=by simp;omega
      have r0 : w4.cell? ⟨wr.heap.size,0,none⟩=some (.int .i64 x):=by rw [grown_cell hg4 HNE.out hz4];simp [go_sem,hs3,s0]
      have r1 : w4.cell? ⟨wr.heap.size,1,none⟩=some (.int .i64 y):=by rw [grown_cell hg4 HNE.out hz4];simp [go_sem,hs3,s1]
      have t4 : w4.cell? ⟨w.heap.size,0,none⟩=some (.int .i64 p):=by rw [hb4.cell (p:=⟨w.heap.size,0,none⟩) hz];exact kp
      have t5 : w4.cell? ⟨w.heap.size,1,none⟩=some (.int .i64 q):=by rw [hb4.cell (p:=⟨w.heap.size,1,none⟩) hz];exact kq
      have hs4:=hb4.size
      clear hown4 hg_ hg4 hbA hz4 s0 s1 s2 t0 t1
      go_wp2
      go_roundw
      case rel=>exact ⟨k+1,o++[(p,q,n)],true,by omega,by go_num,rfl,hb4,HO4.out,by rw [List.length_append];simp;omega,HS2.out⟩
      case measure=>simp [intOf];omega
    ·have HL:=lH hl
     have hne : (x,y)≠(p,q):=fun k=>by rw [k,pless_irrefl] at hl;cases hl
     have he : eqP (x,y) (p,q)=false:=by
      cases e : eqP (x,y) (p,q)
      ·rfl
      ·exact absurd (eqP_iff.1 e) hne
     have HS2 : Hid ((o++[(x,y,z)])++setF (p,q) n (l.drop (k+1)) false=setF (p,q) n l d0):=lH (by rw [← HT.out,HST.out,hl,if_neg hne];simp)
     clear hne hl
     go_wp2_with fail
     obtain ⟨V,hV⟩ : ∃ V,V=wr.alloc (.cells #[.int .i64 x,.int .i64 y,.int .i64 z] 55):=⟨_,rfl⟩
     have hbV : Below wr.heap.size wr V:=hV ▸ below1 wr _
     have hzV : wr.heap.size<V.heap.size:=by rw [hV];simp
     have v0 : V.cell? ⟨wr.heap.size,0,none⟩=some (.int .i64 x):=by rw [hV];simp [go_sem]
     have v1 : V.cell? ⟨wr.heap.size,1,none⟩=some (.int .i64 y):=by rw [hV];simp [go_sem]
     have v2 : V.cell? ⟨wr.heap.size,2,none⟩=some (.int .i64 z):=by rw [hV];simp [go_sem]
     rw [← hV]
     clear hV
     refine (less_is HL _).mono ?_
     rintro e w3 ⟨rfl,hb3⟩
     have cl:=(bcell hb3).1
     have s0 : w3.cell? ⟨wr.heap.size,0,none⟩=some (.int .i64 x):=by rw [cl _ _ hzV];exact v0
     have s1 : w3.cell? ⟨wr.heap.size,1,none⟩=some (.int .i64 y):=by rw [cl _ _ hzV];exact v1
     have s2 : w3.cell? ⟨wr.heap.size,2,none⟩=some (.int .i64 z):=by rw [cl _ _ hzV];exact v2
     have hbw3 : Below W.heap.size W w3:=nx hb (nx hbV hb3)
     have t0 : w3.cell? ⟨w.heap.size,0,none⟩=some (.int .i64 p):=by rw [hbw3.cell (p:=⟨w.heap.size,0,none⟩) hz];exact kp
     have t1 : w3.cell? ⟨w.heap.size,1,none⟩=some (.int .i64 q):=by rw [hbw3.cell (p:=⟨w.heap.size,1,none⟩) hz];exact kq
     have hs3 : wr.heap.size<w3.heap.size:=by have:=hb3.size;omega
     have hsW : W.heap.size≤w3.heap.size:=hbw3.size
     have HO3:=lH (Own.below HO.out (nx hbV hb3))
     have hne3 : u7.ownBlock≠some wr.heap.size:=own_ne HO.out (Nat.le_refl _)
     have HNE:=lH hne3
     clear c1 f1 r1 p1 v0 v1 v2 hbV hb3 cl q0 q1 q2 hne3
     have hbA:=hbw3.alloc hsW (.cells #[.int .i64 x,.int .i64 y,.int .i64 z] 55)
     go_wp2_with (at_builtin;refine wpList_append_own _ rfl _ _ 26 rfl (W.heap.size) 55 i0 (.agg #[.int .i64 0,.int .i64 0,.int .i64 0]) 3 24 Tryz.underlying26 hi hz0 hz1 hz2 rfl (by decide) _ _ _ rfl (HO3.out.alloc _) (⟨w3.heap.size,0,none⟩) 1 1 (enc (x,y,z)) rfl rfl ?c1 ?c2 ?c3 ?c4 ?c5 ?_)
     case c1=>intro j u hj;rcases j with _ | _ | _ | _ | _ | _<;>simp [enc] at hj<;>subst hj<;>simp [Addr.add,go_sem]
     case c2=>intro u hu;simp [enc] at hu;rcases hu with rfl | rfl | rfl<;>rfl
     case c3=>unfold maxLen;omega
     case c4=>omega
     case c5=>have:=(hbA).size;simp at this ⊢;omega
     intro v4 w4 hown4 hg_ _
     have hb4:=(hbA).grown hg_ (by have:=(hbA).size;simp at this ⊢;omega) (fun k_ hk_=>((HO3.out).lt k_ hk_).1)
     clear hg_
     have HO4 : Hid (Own W.heap.size (o++[(x,y,z)]) v4 w4):=lH (Own.snoc hown4)
     clear hown4 hbA
     go_wp2
     go_roundw
     case rel=>exact ⟨k+1,o++[(x,y,z)],false,by omega,by go_num,rfl,hb4,HO4.out,by rw [List.length_append];simp;omega,HS2.out⟩
     case measure=>simp [intOf];omega
   ·cases he : eqP (x,y) (p,q)
    ·have hne : (x,y)≠(p,q):=fun k=>by rw [eqP_iff.2 k] at he;cases he
     have HS2 : Hid ((o++[(x,y,z)])++setF (p,q) n (l.drop (k+1)) true=setF (p,q) n l d0):=lH (by rw [← HT.out,HST.out,if_neg hne];simp)
     clear hne
     have hbA:=(hb.alloc (by omega) (.cells #[.int .i64 x,.int .i64 y,.int .i64 z] 55)).alloc (by simp;omega) (.cells #[.int .i64 x,.int .i64 y,.int .i64 z] 55)
     go_wp2_with (at_builtin;refine wpList_append_own _ rfl _ _ 26 rfl (W.heap.size) 55 i0 (.agg #[.int .i64 0,.int .i64 0,.int .i64 0]) 3 24 Tryz.underlying26 hi hz0 hz1 hz2 rfl (by decide) _ _ _ rfl (HO.out.alloc _ |>.alloc _) (⟨wr.heap.size+1,0,none⟩) 1 1 (enc (x,y,z)) rfl rfl ?c1 ?c2 ?c3 ?c4 ?c5 ?_)
     case c1=>intro j u hj;rcases j with _ | _ | _ | _ | _ | _<;>simp [enc] at hj<;>subst hj<;>simp [Addr.add,go_sem]
     case c2=>intro u hu;simp [enc] at hu;rcases hu with rfl | rfl | rfl<;>rfl
     case c3=>unfold maxLen;omega
     case c4=>omega
     case c5=>have:=(hbA).size;simp at this ⊢;omega
     intro v2 w2 hown2 hg_ _
     have hb2:=(hbA).grown hg_ (by have:=(hbA).size;simp at this ⊢;omega) (fun k_ hk_=>((HO.out).lt k_ hk_).1)
     clear hg_
     have HO2 : Hid (Own W.heap.size (o++[(x,y,z)]) v2 w2):=lH (Own.snoc hown2)
     clear hown2 hbA
     go_wp2
     go_roundw
     case rel=>exact ⟨k+1,o++[(x,y,z)],true,by omega,by go_num,rfl,hb2,HO2.out,by rw [List.length_append];simp;omega,HS2.out⟩
     case measure=>simp [intOf];omega
    ·have HS2 : Hid (o++setF (p,q) n (l.drop (k+1)) true=setF (p,q) n l d0):=lH (by rw [← HT.out,HST.out,if_pos (eqP_iff.1 he)];simp)
     have HO2 : Hid (Own W.heap.size o u7 (wr.alloc (.cells #[.int .i64 x,.int .i64 y,.int .i64 z] 55))):=lH (HO.out.alloc _)
     go_wp2
     go_roundw
     case rel=>exact ⟨k+1,o,true,by omega,by go_num,rfl,hb.alloc hsz _,HO2.out,by omega,HS2.out⟩
     case measure=>simp [intOf];omega
  ·obtain rfl : k=m:=by omega
   have hfin : setF (p,q) n (l.drop k) e=if e then [] else [(p,q,n)]:=by rw [HN.out,List.drop_length];rfl
   rw [hfin] at HT
   have HF:=HT
   clear hfin
   cases e
   ·have HS2 : Hid (o++[(p,q,n)]=set l (p,q) n):=lH (by rw [HS.out,← HF.out];rfl)
    have hbA:=hb.alloc (by omega) (.cells #[.int .i64 p,.int .i64 q,.int .i64 n] 55)
    go_wp2_with (at_builtin;refine wpList_append_own _ rfl _ _ 26 rfl (W.heap.size) 55 i0 (.agg #[.int .i64 0,.int .i64 0,.int .i64 0]) 3 24 Tryz.underlying26 hi hz0 hz1 hz2 rfl (by decide) _ _ _ rfl (HO.out.alloc _) (⟨wr.heap.size,0,none⟩) 1 1 (enc (p,q,n)) rfl rfl ?c1 ?c2 ?c3 ?c4 ?c5 ?_)
    case c1=>intro j u hj;rcases j with _ | _ | _ | _ | _ | _<;>simp [enc] at hj<;>subst hj<;>simp [Addr.add,go_sem]
    case c2=>intro u hu;simp [enc] at hu;rcases hu with rfl | rfl | rfl<;>rfl
    case c3=>unfold maxLen;omega
    case c4=>omega
    case c5=>have:=(hbA).size;simp at this ⊢;omega
    intro v2 w2 hown2 hg_ _
    have hb2:=(hbA).grown hg_ (by have:=(hbA).size;simp at this ⊢;omega) (fun k_ hk_=>((HO.out).lt k_ hk_).1)
    clear hg_
    have HO2 : Hid (Own W.heap.size (set l (p,q) n) v2 w2):=lH (by rw [← HS2.out];exact Own.snoc hown2)
    clear hown2 hbA
    go_wp2
    go_ret
    exact ⟨_,rfl,nx hb0 hb2,HO2.out.hl⟩
   ·have HS2 : Hid (o=set l (p,q) n):=lH (by rw [HS.out,← HF.out];simp)
    go_wp2
    go_ret
    exact ⟨_,rfl,nx hb0 hb,by rw [← HS2.out];exact HO.out.hl⟩
end Go.Proofs.YthecinmekoaphaaGreat.Ac
namespace Go.Proofs.YthecinmekoaphaaGreat.Ac
open Go.RowKit
open Rw
open Sl
open Mo (may addS addE subS subE rAdd_any rSub_any)
variable {lo : Nat}
def Post2 (F : Value→World→Prop) (x : Int) (w : World) (e : Ending) (w' : World) : Prop:=∃ v,e=.returned (.tuple #[v,.int .i64 x])∧Below w.heap.size w w'∧F v w'
theorem rGive_any (l : List Hd) (v : Value) (p q n : Int) (w : World) (h : HL lo l v w) (hm : l.length≤1000000) :
  Calls Tryz.prog 44 #[v,.agg #[.int .i64 p,.int .i64 q],.int .i64 n] w (Post2 (HL lo (giveL l (p,q) n)) (giveE l (p,q) n) w):=by
 have hm' : l.length≤maxLen:=by unfold maxLen;omega
 have HM:=lH hm
 have HM':=lH hm'
 have HH:=lH h
 clear hm hm' h
 cases hr : right l
 ·have HR:=lH hr
  have hE : giveE l (p,q) n=1:=by unfold giveE;rw [hr];rfl
  have HL0 : Hid (giveL l (p,q) n=l):=lH (by unfold giveL;rw [hE,if_neg (by decide)])
  have HE:=lH hE
  clear hE hr
  rw [HE.out,HL0.out]
  go_enter Tryz.func44,Tryz.ntmps44
  go_wp2_with fail
  have HH1:=lH (SL.stays enc 3 55 l v w _ HH.out (below1 w (.cells #[.int .i64 p,.int .i64 q] 53)))
  refine (rRight_is HR _ HH1.out HM'.out).mono ?_
  rintro e w1 ⟨rfl,hb1⟩
  have HH2:=lH (SL.stays enc 3 55 l v _ _ HH1.out hb1)
  go_wp2_with fail
  refine (own_any l v _ HH2.out HM.out).mono ?_
  rintro e w2 ⟨v2,rfl,hb2,hv2⟩
  have HV:=lH hv2
  clear hv2
  go_wp2
  go_ret2
  exact ⟨_,rfl,nx (below1 _ _) (nx hb1 hb2),HV.out⟩
 ·have HR:=lH hr
  cases hp : pmay (p,q)
  ·have HP:=lH hp
   have hE : giveE l (p,q) n=1:=by unfold giveE;rw [hr,hp];rfl
   have HL0 : Hid (giveL l (p,q) n=l):=lH (by unfold giveL;rw [hE,if_neg (by decide)])
   have HE:=lH hE
   clear hE hr hp
   rw [HE.out,HL0.out]
   go_enter Tryz.func44,Tryz.ntmps44
   go_wp2_with fail
   obtain ⟨W,hW⟩ : ∃ W,W=w.alloc (.cells #[.int .i64 p,.int .i64 q] 53):=⟨_,rfl⟩
   have k0 : W.cell? ⟨w.heap.size,0,none⟩=some (.int .i64 p):=by rw [hW];simp [go_sem]
   have k1 : W.cell? ⟨w.heap.size,1,none⟩=some (.int .i64 q):=by rw [hW];simp [go_sem]
   have hbW : Below w.heap.size w W:=hW ▸ below1 w _
   have hz0 : w.heap.size<W.heap.size:=by rw [hW];simp
   rw [← hW]
   clear hW
   have HH1:=lH (SL.stays enc 3 55 l v w _ HH.out hbW)
   refine (rRight_is HR _ HH1.out HM'.out).mono ?_
   rintro e w1 ⟨rfl,hb1⟩
   have HH2:=lH (SL.stays enc 3 55 l v _ _ HH1.out hb1)
   have m1:=(bcell hb1).1
   have l0 : w1.cell? ⟨w.heap.size,0,none⟩=some (.int .i64 p):=by rw [m1 _ _ hz0];exact k0
   have l1 : w1.cell? ⟨w.heap.size,1,none⟩=some (.int .i64 q):=by rw [m1 _ _ hz0];exact k1
   have hz1 : w.heap.size<w1.heap.size:=by have:=hb1.size;omega
   clear k0 k1 m1
   go_wp2_with fail
   refine (pmay_is HP _).mono ?_
   rintro e w2 ⟨rfl,hb2⟩
   have HH3:=lH (SL.stays enc 3 55 l v _ _ HH2.out hb2)
   go_wp2_with fail
   refine (own_any l v _ HH3.out HM.out).mono ?_
   rintro e w3 ⟨v2,rfl,hb3,hv2⟩
   have HV:=lH hv2
   clear hv2
   go_wp2
   go_ret2
   exact ⟨_,rfl,nx hbW (nx hb1 (nx hb2 hb3)),HV.out⟩
  ·have HP:=lH hp
   cases hn : may n
   ·have HN:=lH hn
    have hE : giveE l (p,q) n=1:=by unfold giveE;rw [hr,hp,hn];rfl
    have HL0 : Hid (giveL l (p,q) n=l):=lH (by unfold giveL;rw [hE,if_neg (by decide)])
    have HE:=lH hE
    clear hE hr hp hn
    rw [HE.out,HL0.out]
    go_enter Tryz.func44,Tryz.ntmps44
    go_wp2_with fail
    obtain ⟨W,hW⟩ : ∃ W,W=w.alloc (.cells #[.int .i64 p,.int .i64 q] 53):=⟨_,rfl⟩
    have k0 : W.cell? ⟨w.heap.size,0,none⟩=some (.int .i64 p):=by rw [hW];simp [go_sem]
    have k1 : W.cell? ⟨w.heap.size,1,none⟩=some (.int .i64 q):=by rw [hW];simp [go_sem]
    have hbW : Below w.heap.size w W:=hW ▸ below1 w _
    have hz0 : w.heap.size<W.heap.size:=by rw [hW];simp
    rw [← hW]
    clear hW
    have HH1:=lH (SL.stays enc 3 55 l v w _ HH.out hbW)
    refine (rRight_is HR _ HH1.out HM'.out).mono ?_
    rintro e w1 ⟨rfl,hb1⟩
    have HH2:=lH (SL.stays enc 3 55 l v _ _ HH1.out hb1)
    have m1:=(bcell hb1).1
    have l0 : w1.cell? ⟨w.heap.size,0,none⟩=some (.int .i64 p):=by rw [m1 _ _ hz0];exact k0
    have l1 : w1.cell? ⟨w.heap.size,1,none⟩=some (.int .i64 q):=by rw [m1 _ _ hz0];exact k1
    have hz1 : w.heap.size<w1.heap.size:=by have:=hb1.size;omega
    clear k0 k1 m1
    go_wp2_with fail
    refine (pmay_is HP _).mono ?_
    rintro e w2 ⟨rfl,hb2⟩
    have HH3:=lH (SL.stays enc 3 55 l v _ _ HH2.out hb2)
    go_wp2_with fail
    refine (rMay_is HN _).mono ?_
    rintro e w' ⟨rfl,rfl⟩
    go_wp2_with fail
    refine (own_any l v _ HH3.out HM.out).mono ?_
    rintro e w3 ⟨v2,rfl,hb3,hv2⟩
    have HV:=lH hv2
    clear hv2
    go_wp2
    go_ret2
    exact ⟨_,rfl,nx hbW (nx hb1 (nx hb2 hb3)),HV.out⟩
   ·have HN:=lH hn
    have hE : giveE l (p,q) n=addE (get l (p,q)) n:=by unfold giveE;rw [hr,hp,hn];rfl
    obtain ⟨g,hg⟩ : ∃ g,get l (p,q)=g:=⟨_,rfl⟩
    have hL : giveL l (p,q) n=if addE g n=0 then set l (p,q) (addS g n) else l:=by unfold giveL;rw [hE,hg]
    rw [hg] at hE
    have HG : ∀ w,HL lo l v w→Calls Tryz.prog 48 #[v,.agg #[.int .i64 p,.int .i64 q]] w fun e w'=>e=.returned (.int .i64 g)∧Below w.heap.size w w':=fun w h=>by
     rw [← hg];exact rGet_any l v p q w h HM'.out
    have HG:=lH HG
    have HE:=lH hE
    have hA:=rAdd_any g n
    have HA:=lH hA
    obtain ⟨x,hx⟩ : ∃ x,addS g n=x:=⟨_,rfl⟩
    obtain ⟨y,hy⟩ : ∃ y,addE g n=y:=⟨_,rfl⟩
    rw [hx,hy] at HA hL
    rw [hy] at HE
    clear hE hA hr hp hn hg hx hy
    by_cases h0 : y=0
    ·subst h0
     rw [if_pos rfl] at hL
     have HL1:=lH hL
     clear hL
     rw [HE.out,HL1.out]
     go_enter Tryz.func44,Tryz.ntmps44
     go_wp2_with fail
     obtain ⟨W,hW⟩ : ∃ W,W=w.alloc (.cells #[.int .i64 p,.int .i64 q] 53):=⟨_,rfl⟩
     have k0 : W.cell? ⟨w.heap.size,0,none⟩=some (.int .i64 p):=by rw [hW];simp [go_sem]
     have k1 : W.cell? ⟨w.heap.size,1,none⟩=some (.int .i64 q):=by rw [hW];simp [go_sem]
     have hbW : Below w.heap.size w W:=hW ▸ below1 w _
     have hz0 : w.heap.size<W.heap.size:=by rw [hW];simp
     rw [← hW]
     clear hW
     have HH1:=lH (SL.stays enc 3 55 l v w _ HH.out hbW)
     refine (rRight_is HR _ HH1.out HM'.out).mono ?_
     rintro e w1 ⟨rfl,hb1⟩
     have HH2:=lH (SL.stays enc 3 55 l v _ _ HH1.out hb1)
     have m1:=(bcell hb1).1
     have l0 : w1.cell? ⟨w.heap.size,0,none⟩=some (.int .i64 p):=by rw [m1 _ _ hz0];exact k0
     have l1 : w1.cell? ⟨w.heap.size,1,none⟩=some (.int .i64 q):=by rw [m1 _ _ hz0];exact k1
     have hz1 : w.heap.size<w1.heap.size:=by have:=hb1.size;omega
     clear k0 k1 m1
     go_wp2_with fail
     refine (pmay_is HP _).mono ?_
     rintro e w2 ⟨rfl,hb2⟩
     have HH3:=lH (SL.stays enc 3 55 l v _ _ HH2.out hb2)
     have m2:=(bcell hb2).1
     have n0 : w2.cell? ⟨w.heap.size,0,none⟩=some (.int .i64 p):=by rw [m2 _ _ hz1];exact l0
     have n1 : w2.cell? ⟨w.heap.size,1,none⟩=some (.int .i64 q):=by rw [m2 _ _ hz1];exact l1
     have hz2 : w.heap.size<w2.heap.size:=by have:=hb2.size;omega
     clear l0 l1 m2
     go_wp2_with fail
     refine (rMay_is HN _).mono ?_
     rintro e w' ⟨rfl,rfl⟩
     go_wp2_with fail
     refine (HG.out _ HH3.out).mono ?_
     rintro e w3 ⟨rfl,hb3⟩
     have HH4:=lH (SL.stays enc 3 55 l v _ _ HH3.out hb3)
     have m3:=(bcell hb3).1
     have o0 : w3.cell? ⟨w.heap.size,0,none⟩=some (.int .i64 p):=by rw [m3 _ _ hz2];exact n0
     have o1 : w3.cell? ⟨w.heap.size,1,none⟩=some (.int .i64 q):=by rw [m3 _ _ hz2];exact n1
     clear n0 n1 m3
     go_wp2_with fail
     refine (HA.out _).mono ?_
     rintro e w4 ⟨rfl,rfl⟩
     go_wp2_with fail
     refine (set_any l v p q x _ HH4.out HM.out).mono ?_
     rintro e w5 ⟨v2,rfl,hb5,hv2⟩
     have HV:=lH hv2
     clear hv2
     go_wp2
     go_ret2
     exact ⟨_,rfl,nx hbW (nx hb1 (nx hb2 (nx hb3 hb5))),HV.out⟩
    ·rw [if_neg h0] at hL
     have HL1:=lH hL
     have hd : (y != 0)=true:=by simpa using h0
     clear hL h0
     rw [HE.out,HL1.out]
     go_enter Tryz.func44,Tryz.ntmps44
     go_wp2_with fail
     obtain ⟨W,hW⟩ : ∃ W,W=w.alloc (.cells #[.int .i64 p,.int .i64 q] 53):=⟨_,rfl⟩
     have k0 : W.cell? ⟨w.heap.size,0,none⟩=some (.int .i64 p):=by rw [hW];simp [go_sem]
     have k1 : W.cell? ⟨w.heap.size,1,none⟩=some (.int .i64 q):=by rw [hW];simp [go_sem]
     have hbW : Below w.heap.size w W:=hW ▸ below1 w _
     have hz0 : w.heap.size<W.heap.size:=by rw [hW];simp
     rw [← hW]
     clear hW
     have HH1:=lH (SL.stays enc 3 55 l v w _ HH.out hbW)
     refine (rRight_is HR _ HH1.out HM'.out).mono ?_
     rintro e w1 ⟨rfl,hb1⟩
     have HH2:=lH (SL.stays enc 3 55 l v _ _ HH1.out hb1)
     have m1:=(bcell hb1).1
     have l0 : w1.cell? ⟨w.heap.size,0,none⟩=some (.int .i64 p):=by rw [m1 _ _ hz0];exact k0
     have l1 : w1.cell? ⟨w.heap.size,1,none⟩=some (.int .i64 q):=by rw [m1 _ _ hz0];exact k1
     have hz1 : w.heap.size<w1.heap.size:=by have:=hb1.size;omega
     clear k0 k1 m1
     go_wp2_with fail
     refine (pmay_is HP _).mono ?_
     rintro e w2 ⟨rfl,hb2⟩
     have HH3:=lH (SL.stays enc 3 55 l v _ _ HH2.out hb2)
     have m2:=(bcell hb2).1
     have n0 : w2.cell? ⟨w.heap.size,0,none⟩=some (.int .i64 p):=by rw [m2 _ _ hz1];exact l0
     have n1 : w2.cell? ⟨w.heap.size,1,none⟩=some (.int .i64 q):=by rw [m2 _ _ hz1];exact l1
     clear l0 l1 m2
     go_wp2_with fail
     refine (rMay_is HN _).mono ?_
     rintro e w' ⟨rfl,rfl⟩
     go_wp2_with fail
     refine (HG.out _ HH3.out).mono ?_
     rintro e w3 ⟨rfl,hb3⟩
     have HH4:=lH (SL.stays enc 3 55 l v _ _ HH3.out hb3)
     clear n0 n1
     go_wp2_with fail
     refine (HA.out _).mono ?_
     rintro e w4 ⟨rfl,rfl⟩
     go_wp2_with fail
     refine (own_any l v _ HH4.out HM.out).mono ?_
     rintro e w5 ⟨v2,rfl,hb5,hv2⟩
     have HV:=lH hv2
     clear hv2
     go_wp2
     go_ret2
     exact ⟨_,rfl,nx hbW (nx hb1 (nx hb2 (nx hb3 hb5))),HV.out⟩
theorem rTake_any (l : List Hd) (v : Value) (p q n : Int) (w : World) (h : HL lo l v w) (hm : l.length≤1000000) :
  Calls Tryz.prog 49 #[v,.agg #[.int .i64 p,.int .i64 q],.int .i64 n] w (Post2 (HL lo (takeL l (p,q) n)) (takeE l (p,q) n) w):=by
 have hm' : l.length≤maxLen:=by unfold maxLen;omega
 have HM:=lH hm
 have HM':=lH hm'
 have HH:=lH h
 clear hm hm' h
 cases hr : right l
 ·have HR:=lH hr
  have hE : takeE l (p,q) n=1:=by unfold takeE;rw [hr];rfl
  have HL0 : Hid (takeL l (p,q) n=l):=lH (by unfold takeL;rw [hE,if_neg (by decide)])
  have HE:=lH hE
  clear hE hr
  rw [HE.out,HL0.out]
  go_enter Tryz.func49,Tryz.ntmps49
  go_wp2_with fail
  have HH1:=lH (SL.stays enc 3 55 l v w _ HH.out (below1 w (.cells #[.int .i64 p,.int .i64 q] 53)))
  refine (rRight_is HR _ HH1.out HM'.out).mono ?_
  rintro e w1 ⟨rfl,hb1⟩
  have HH2:=lH (SL.stays enc 3 55 l v _ _ HH1.out hb1)
  go_wp2_with fail
  refine (own_any l v _ HH2.out HM.out).mono ?_
  rintro e w2 ⟨v2,rfl,hb2,hv2⟩
  have HV:=lH hv2
  clear hv2
  go_wp2
  go_ret2
  exact ⟨_,rfl,nx (below1 _ _) (nx hb1 hb2),HV.out⟩
 ·have HR:=lH hr
  cases hp : pmay (p,q)
  ·have HP:=lH hp
   have hE : takeE l (p,q) n=1:=by unfold takeE;rw [hr,hp];rfl
   have HL0 : Hid (takeL l (p,q) n=l):=lH (by unfold takeL;rw [hE,if_neg (by decide)])
   have HE:=lH hE
   clear hE hr hp
   rw [HE.out,HL0.out]
   go_enter Tryz.func49,Tryz.ntmps49
   go_wp2_with fail
   obtain ⟨W,hW⟩ : ∃ W,W=w.alloc (.cells #[.int .i64 p,.int .i64 q] 53):=⟨_,rfl⟩
   have k0 : W.cell? ⟨w.heap.size,0,none⟩=some (.int .i64 p):=by rw [hW];simp [go_sem]
   have k1 : W.cell? ⟨w.heap.size,1,none⟩=some (.int .i64 q):=by rw [hW];simp [go_sem]
   have hbW : Below w.heap.size w W:=hW ▸ below1 w _
   have hz0 : w.heap.size<W.heap.size:=by rw [hW];simp
   rw [← hW]
   clear hW
   have HH1:=lH (SL.stays enc 3 55 l v w _ HH.out hbW)
   refine (rRight_is HR _ HH1.out HM'.out).mono ?_
   rintro e w1 ⟨rfl,hb1⟩
   have HH2:=lH (SL.stays enc 3 55 l v _ _ HH1.out hb1)
   have m1:=(bcell hb1).1
   have l0 : w1.cell? ⟨w.heap.size,0,none⟩=some (.int .i64 p):=by rw [m1 _ _ hz0];exact k0
   have l1 : w1.cell? ⟨w.heap.size,1,none⟩=some (.int .i64 q):=by rw [m1 _ _ hz0];exact k1
   have hz1 : w.heap.size<w1.heap.size:=by have:=hb1.size;omega
   clear k0 k1 m1
   go_wp2_with fail
   refine (pmay_is HP _).mono ?_
   rintro e w2 ⟨rfl,hb2⟩
   have HH3:=lH (SL.stays enc 3 55 l v _ _ HH2.out hb2)
   go_wp2_with fail
   refine (own_any l v _ HH3.out HM.out).mono ?_
   rintro e w3 ⟨v2,rfl,hb3,hv2⟩
   have HV:=lH hv2
   clear hv2
   go_wp2
   go_ret2
   exact ⟨_,rfl,nx hbW (nx hb1 (nx hb2 hb3)),HV.out⟩
  ·have HP:=lH hp
   cases hn : may n
   ·have HN:=lH hn
    have hE : takeE l (p,q) n=1:=by unfold takeE;rw [hr,hp,hn];rfl
    have HL0 : Hid (takeL l (p,q) n=l):=lH (by unfold takeL;rw [hE,if_neg (by decide)])
    have HE:=lH hE
    clear hE hr hp hn
    rw [HE.out,HL0.out]
    go_enter Tryz.func49,Tryz.ntmps49
    go_wp2_with fail
    obtain ⟨W,hW⟩ : ∃ W,W=w.alloc (.cells #[.int .i64 p,.int .i64 q] 53):=⟨_,rfl⟩
    have k0 : W.cell? ⟨w.heap.size,0,none⟩=some (.int .i64 p):=by rw [hW];simp [go_sem]
    have k1 : W.cell? ⟨w.heap.size,1,none⟩=some (.int .i64 q):=by rw [hW];simp [go_sem]
    have hbW : Below w.heap.size w W:=hW ▸ below1 w _
    have hz0 : w.heap.size<W.heap.size:=by rw [hW];simp
    rw [← hW]
    clear hW
    have HH1:=lH (SL.stays enc 3 55 l v w _ HH.out hbW)
    refine (rRight_is HR _ HH1.out HM'.out).mono ?_
    rintro e w1 ⟨rfl,hb1⟩
    have HH2:=lH (SL.stays enc 3 55 l v _ _ HH1.out hb1)
    have m1:=(bcell hb1).1
    have l0 : w1.cell? ⟨w.heap.size,0,none⟩=some (.int .i64 p):=by rw [m1 _ _ hz0];exact k0
    have l1 : w1.cell? ⟨w.heap.size,1,none⟩=some (.int .i64 q):=by rw [m1 _ _ hz0];exact k1
    have hz1 : w.heap.size<w1.heap.size:=by have:=hb1.size;omega
    clear k0 k1 m1
    go_wp2_with fail
    refine (pmay_is HP _).mono ?_
    rintro e w2 ⟨rfl,hb2⟩
    have HH3:=lH (SL.stays enc 3 55 l v _ _ HH2.out hb2)
    go_wp2_with fail
    refine (rMay_is HN _).mono ?_
    rintro e w' ⟨rfl,rfl⟩
    go_wp2_with fail
    refine (own_any l v _ HH3.out HM.out).mono ?_
    rintro e w3 ⟨v2,rfl,hb3,hv2⟩
    have HV:=lH hv2
    clear hv2
    go_wp2
    go_ret2
    exact ⟨_,rfl,nx hbW (nx hb1 (nx hb2 hb3)),HV.out⟩
   ·have HN:=lH hn
    have hE : takeE l (p,q) n=subE (get l (p,q)) n:=by unfold takeE;rw [hr,hp,hn];rfl
    obtain ⟨g,hg⟩ : ∃ g,get l (p,q)=g:=⟨_,rfl⟩
    have hL : takeL l (p,q) n=if subE g n=0 then set l (p,q) (subS g n) else l:=by unfold takeL;rw [hE,hg]
    rw [hg] at hE
    have HG : ∀ w,HL lo l v w→Calls Tryz.prog 48 #[v,.agg #[.int .i64 p,.int .i64 q]] w fun e w'=>e=.returned (.int .i64 g)∧Below w.heap.size w w':=fun w h=>by
     rw [← hg];exact rGet_any l v p q w h HM'.out
    have HG:=lH HG
    have HE:=lH hE
    have hA:=rSub_any g n
    have HA:=lH hA
    obtain ⟨x,hx⟩ : ∃ x,subS g n=x:=⟨_,rfl⟩
    obtain ⟨y,hy⟩ : ∃ y,subE g n=y:=⟨_,rfl⟩
    rw [hx,hy] at HA hL
    rw [hy] at HE
    clear hE hA hr hp hn hg hx hy
    by_cases h0 : y=0
    ·subst h0
     rw [if_pos rfl] at hL
     have HL1:=lH hL
     clear hL
     rw [HE.out,HL1.out]
     go_enter Tryz.func49,Tryz.ntmps49
     go_wp2_with fail
     obtain ⟨W,hW⟩ : ∃ W,W=w.alloc (.cells #[.int .i64 p,.int .i64 q] 53):=⟨_,rfl⟩
     have k0 : W.cell? ⟨w.heap.size,0,none⟩=some (.int .i64 p):=by rw [hW];simp [go_sem]
     have k1 : W.cell? ⟨w.heap.size,1,none⟩=some (.int .i64 q):=by rw [hW];simp [go_sem]
     have hbW : Below w.heap.size w W:=hW ▸ below1 w _
     have hz0 : w.heap.size<W.heap.size:=by rw [hW];simp
     rw [← hW]
     clear hW
     have HH1:=lH (SL.stays enc 3 55 l v w _ HH.out hbW)
     refine (rRight_is HR _ HH1.out HM'.out).mono ?_
     rintro e w1 ⟨rfl,hb1⟩
     have HH2:=lH (SL.stays enc 3 55 l v _ _ HH1.out hb1)
     have m1:=(bcell hb1).1
     have l0 : w1.cell? ⟨w.heap.size,0,none⟩=some (.int .i64 p):=by rw [m1 _ _ hz0];exact k0
     have l1 : w1.cell? ⟨w.heap.size,1,none⟩=some (.int .i64 q):=by rw [m1 _ _ hz0];exact k1
     have hz1 : w.heap.size<w1.heap.size:=by have:=hb1.size;omega
     clear k0 k1 m1
     go_wp2_with fail
     refine (pmay_is HP _).mono ?_
     rintro e w2 ⟨rfl,hb2⟩
     have HH3:=lH (SL.stays enc 3 55 l v _ _ HH2.out hb2)
     have m2:=(bcell hb2).1
     have n0 : w2.cell? ⟨w.heap.size,0,none⟩=some (.int .i64 p):=by rw [m2 _ _ hz1];exact l0
     have n1 : w2.cell? ⟨w.heap.size,1,none⟩=some (.int .i64 q):=by rw [m2 _ _ hz1];exact l1
     have hz2 : w.heap.size<w2.heap.size:=by have:=hb2.size;omega
     clear l0 l1 m2
     go_wp2_with fail
     refine (rMay_is HN _).mono ?_
     rintro e w' ⟨rfl,rfl⟩
     go_wp2_with fail
     refine (HG.out _ HH3.out).mono ?_
     rintro e w3 ⟨rfl,hb3⟩
     have HH4:=lH (SL.stays enc 3 55 l v _ _ HH3.out hb3)
     have m3:=(bcell hb3).1
     have o0 : w3.cell? ⟨w.heap.size,0,none⟩=some (.int .i64 p):=by rw [m3 _ _ hz2];exact n0
     have o1 : w3.cell? ⟨w.heap.size,1,none⟩=some (.int .i64 q):=by rw [m3 _ _ hz2];exact n1
     clear n0 n1 m3
     go_wp2_with fail
     refine (HA.out _).mono ?_
     rintro e w4 ⟨rfl,rfl⟩
     go_wp2_with fail
     refine (set_any l v p q x _ HH4.out HM.out).mono ?_
     rintro e w5 ⟨v2,rfl,hb5,hv2⟩
     have HV:=lH hv2
     clear hv2
     go_wp2
     go_ret2
     exact ⟨_,rfl,nx hbW (nx hb1 (nx hb2 (nx hb3 hb5))),HV.out⟩
    ·rw [if_neg h0] at hL
     have HL1:=lH hL
     have hd : (y != 0)=true:=by simpa using h0
     clear hL h0
     rw [HE.out,HL1.out]
     go_enter Tryz.func49,Tryz.ntmps49
     go_wp2_with fail
     obtain ⟨W,hW⟩ : ∃ W,W=w.alloc (.cells #[.int .i64 p,.int .i64 q] 53):=⟨_,rfl⟩
     have k0 : W.cell? ⟨w.heap.size,0,none⟩=some (.int .i64 p):=by rw [hW];simp [go_sem]
     have k1 : W.cell? ⟨w.heap.size,1,none⟩=some (.int .i64 q):=by rw [hW];simp [go_sem]
     have hbW : Below w.heap.size w W:=hW ▸ below1 w _
     have hz0 : w.heap.size<W.heap.size:=by rw [hW];simp
     rw [← hW]
     clear hW
     have HH1:=lH (SL.stays enc 3 55 l v w _ HH.out hbW)
     refine (rRight_is HR _ HH1.out HM'.out).mono ?_
     rintro e w1 ⟨rfl,hb1⟩
     have HH2:=lH (SL.stays enc 3 55 l v _ _ HH1.out hb1)
     have m1:=(bcell hb1).1
     have l0 : w1.cell? ⟨w.heap.size,0,none⟩=some (.int .i64 p):=by rw [m1 _ _ hz0];exact k0
     have l1 : w1.cell? ⟨w.heap.size,1,none⟩=some (.int .i64 q):=by rw [m1 _ _ hz0];exact k1
     have hz1 : w.heap.size<w1.heap.size:=by have:=hb1.size;omega
     clear k0 k1 m1
     go_wp2_with fail
     refine (pmay_is HP _).mono ?_
     rintro e w2 ⟨rfl,hb2⟩
     have HH3:=lH (SL.stays enc 3 55 l v _ _ HH2.out hb2)
     have m2:=(bcell hb2).1
     have n0 : w2.cell? ⟨w.heap.size,0,none⟩=some (.int .i64 p):=by rw [m2 _ _ hz1];exact l0
     have n1 : w2.cell? ⟨w.heap.size,1,none⟩=some (.int .i64 q):=by rw [m2 _ _ hz1];exact l1
     clear l0 l1 m2
     go_wp2_with fail
     refine (rMay_is HN _).mono ?_
     rintro e w' ⟨rfl,rfl⟩
     go_wp2_with fail
     refine (HG.out _ HH3.out).mono ?_
     rintro e w3 ⟨rfl,hb3⟩
     have HH4:=lH (SL.stays enc 3 55 l v _ _ HH3.out hb3)
     clear n0 n1
     go_wp2_with fail
     refine (HA.out _).mono ?_
     rintro e w4 ⟨rfl,rfl⟩
     go_wp2_with fail
     refine (own_any l v _ HH4.out HM.out).mono ?_
     rintro e w5 ⟨v2,rfl,hb5,hv2⟩
     have HV:=lH hv2
     clear hv2
     go_wp2
     go_ret2
     exact ⟨_,rfl,nx hbW (nx hb1 (nx hb2 (nx hb3 hb5))),HV.out⟩
end Go.Proofs.YthecinmekoaphaaGreat.Ac
