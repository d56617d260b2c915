/- Package book as it landed: clonedLevels, cloned. -/
import Derived.Test.YtjhocpcpkemcaaaGreatQeZZ
import Derived.Test.YtjhocpcpkemcaaaGreatQeBD
import Derived.Test.YtjhocpcpkemcaaaGreatQeAT
set_option linter.unusedVariables false
set_option maxRecDepth 16000
set_option maxHeartbeats 32000000
namespace Go.Proofs.YtjhocpcpkemcaaaGreat.Bk
open Go.RowKit
open Rw
open Da
open Ro
open Le
theorem clonedLv_any (B:Bs) (l:List Lv) (v:Value) (w:World) (h:LL B l v w) (hB:B.le w.heap.size) (hm:l.length≤1000000) (hf:(flat l).length≤1000000) :
  Calls Tryz.prog 206 #[v] w (Post (ClF B w.heap.size l) w):=by
 obtain ⟨a1,c1,rfl,h1⟩:=h
 have HA:=lH h1
 have HFl:=lH hf
 obtain ⟨n,hn⟩:∃ n,n=l.length:=⟨_,rfl⟩
 rw [← hn] at hm ⊢
 have HN:=lH hn
 have hmk':=make_levels n hm
 clear h1 hn hf
 go_enter Tryz.func206,Tryz.ntmps206
 go_wp2
 clear hmk'
 obtain ⟨W,hW⟩:∃ W,W=w.alloc (.cells (madeCells #[.int .i64 0,.slice none 0 0] (n*2)) 106):=⟨_,rfl⟩
 have hbW:Below w.heap.size w W:=hW ▸ below1 w _
 have hI:RowF w.heap.size n (List.replicate n (0,none,0,0)) W:=hW ▸ row_levels n w
 rw [← hW]
 clear hW
 have HI:=lH hI
 clear hI
 go_loopw [4,11] (fun _ i wr=>∃ k:Nat,k≤n∧i=.int .i64 k∧Below w.heap.size w wr∧RelC B w.heap.size n l k wr) (fun _ i _=>n - (intOf i).toNat)
 case atStart=>exact ⟨0,Nat.zero_le _,rfl,hbW,[],HI.out,Mine.nil _ _ _⟩
 case round =>
  obtain ⟨k,hk,rfl,hb,hs,hrow,hmine⟩:=hrel
  have HR:=lH hrow
  have HM:=lH hmine
  clear hrow hmine
  by_cases hlt:k<n
  ·have hlt2:(k:Int)<n:=by omega
   have hkl:k<l.length:=by rw [← HN.out];exact hlt
   rcases HA.out with ⟨e,_⟩ | ⟨b,off,rfl,hat⟩
   ·rw [e] at hkl;cases hkl
   have hat2:=Lies.keep eL 106 hat (Keeps.of_below hb)
   have hbb:=hat2.1
   obtain ⟨x,q0,q1,hx⟩:=atL hat2 k hkl
   have hle:=flat_take_le l (k+1)
   rw [flat_take_snoc hkl,List.length_append] at hle
   obtain ⟨⟨pr,os⟩,hlk⟩:∃ y,l[k]'hkl=y:=⟨_,rfl⟩
   rw [hlk] at q0 hx hle
   simp only at q0 hx hle
   have hosl:os.length≤1000000:=by have:=HFl.out;omega
   have HX0:=lH hx
   obtain ⟨a2,c2,rfl⟩:=hx.len
   have hgz:=HR.out.lt
   obtain ⟨V,hV⟩:∃ V,V=wr.alloc (.cells #[.int .i64 pr,.slice a2 os.length c2] 106):=⟨_,rfl⟩
   have hbV:Below wr.heap.size wr V:=hV ▸ below1 wr _
   have hzV:wr.heap.size<V.heap.size:=by rw [hV];simp
   have s0:V.cell? ⟨wr.heap.size,0,none⟩=some (.int .i64 pr):=by rw [hV];simp [go_sem]
   have s1:V.cell? ⟨wr.heap.size,1,none⟩=some (.slice a2 os.length c2):=by rw [hV];simp [go_sem]
   have hbw:=nx hb hbV
   have hne:some wr.heap.size≠some w.heap.size:=fun e=>by injection e with e;omega
   have hF:∀ u,V.grownBy u (some w.heap.size)→u.cell? ⟨wr.heap.size,0,none⟩=some (.int .i64 pr)∧u.cell? ⟨wr.heap.size,1,none⟩=some (.slice a2 os.length c2):=fun u hu =>
    ⟨by rw [grown_cell hu hzV hne];exact s0,by rw [grown_cell hu hzV hne];exact s1⟩
   have HX:=lH (show ∀ u,Below V.heap.size V u→OL B os (.slice a2 os.length c2) u∧B.le u.heap.size from fun u hu=>⟨Is.stays eO 74 HX0.out (nx hbV hu),hB.mono (nx hbw hu).size⟩)
   have HRV:=lH (HR.out.stays hbV)
   have HMV:=lH (HM.out.stays hbV)
   have HB:=lH hB
   have HLk:=lH hlk
   have HV:=lH hV
   clear hV hle s0 s1 hx hlk
   go_wp2
   rw [← HV.out]
   refine Rh.rg (fun u=>V.grownBy u (some w.heap.size)) (fun u=>Below V.heap.size V u) (grown_stays V _) (fun _ _ h k=>nx h k) (grown_drew V _) ((Below.refl _ _).drew) [0,1,2,3,4,5,6,7,8,9] ?_
   repeat (first | (refine Rh.Steps.sk ?_;simp only [Act.put,sA,sB,sC]) | (refine Rh.Steps.pu (v:=?_) ?_ ?_;rotate_left;(intro w_ hS_;have hk_:=hF w_ hS_;go_simp<;>with_reducible rfl);simp only [Act.put,sA,sB,sC]))
   refine Rh.Steps.forced (i:=6) (by kernel_rfl) ?_
   refine Rh.One.call (fun v u=>OwnO B V.heap.size os v u) (fun v _ _ h k=>h.stays k) (f:=?_) (args:=?_) (by rfl) (by rfl) ?_ ?_ ?_
   rotate_left 2
   ·intro w_ hS_ hG_;go_simp<;>first | with_reducible rfl | (constructor<;>with_reducible rfl)
   ·intro w_ hS_ hG_;(go_at_call 122;refine (cloneO_any B os _ w_ (HX.out w_ hG_).1 (HX.out w_ hG_).2 hosl).mono ?_;rintro e w' ⟨v,rfl,hb1,ho⟩;exact ⟨v,rfl,hb1,Own.lower ho hG_.size⟩)
   intro v1 u_ hv1
   simp only [Act.put,sA,sB,sC]
   obtain ⟨a3,n3,c3,rfl⟩:∃ a n c,v1=.slice a n c:=by obtain ⟨a,c,h⟩:=(hv1.is (by decide) (HB.out.mono hbw.size)).len;exact ⟨a,_,c,h⟩
   repeat (first | (refine Rh.Steps.sk ?_;simp only [Act.put,sA,sB,sC]) | (refine Rh.Steps.pu (v:=?_) ?_ ?_;rotate_left;(intro w_ hS_;have hk_:=hF w_ hS_;go_simp<;>with_reducible rfl);simp only [Act.put,sA,sB,sC]))
   refine Rh.Steps.forced (i:=9) (by kernel_rfl) ?_
   refine Rh.One.store (fun u=>Below w.heap.size w u∧RelC B w.heap.size n l (k+1) u) (fun _ _ h k=>⟨nx h.1 k,h.2.stays k⟩) (by rfl) (by rfl) ?_ ?_
   ·intro w_ hS_ hG_
    obtain ⟨c0,c1,f0,f1⟩:=relC_at HN.out hkl (HMV.out.stays hG_.1) (HRV.out.stays hG_.1)
    obtain ⟨hrel,hgr⟩:=relC_next HB.out HN.out hkl (HRV.out.stays hG_.1) HMV.out hG_.1 hbw.size HLk.out hG_.2
    refine ⟨_,?_,grown_trans hS_ hgr,(nx hbw hG_.1).grown hgr (nx hbw hG_.1).size (fun k hk=>by injection hk with e;omega),hrel⟩
    go_simp
   refine Rh.Steps.nil (by kernel_rfl) ?_
   intro w4 _ hG4
   have HG:=lH hG4
   clear hG4
   go_wp2
   go_roundw
   case rel=>exact ⟨k+1,by omega,by go_num,HG.out.1,HG.out.2⟩
   case measure=>simp [intOf];omega
  ·obtain rfl:k=n:=by omega
   have e1:l.take k=l:=by rw [HN.out,List.take_length]
   have hm9:=HM.out
   have hr9:=HR.out
   rw [e1] at hm9
   rw [Nat.sub_self,List.replicate_zero,List.append_nil] at hr9
   have HM9:=lH hm9
   have HR9:=lH hr9
   clear hm9 hr9 e1
   go_wp2
   go_ret
   exact ⟨_,rfl,hb,w.heap.size,hs,by rw [← HN.out];rfl,Nat.le_refl _,HM9.out.len,by rw [← HN.out];exact HR9.out,HM9.out⟩
theorem mine_lower {B:Bs} {Bo Bo':Nat} {l:List Lv} {hs:List Hw} {w:World} (h:Mine B Bo' l hs w) (k:Bo≤Bo'):Mine B Bo l hs w :=
 ⟨h.len,fun i x y hx hy=>⟨(h.own i x y hx hy).1,Own.lower (h.own i x y hx hy).2 k⟩,h.apart⟩
theorem clF_is {B:Bs} {Bo:Nat} {l:List Lv} {v:Value} {u:World} (h:ClF B Bo l v u) (hB:B.le Bo) (hm:l.length≤1000000):∃ hs,Is eF 106 B hs v u∧Mine B Bo l hs u:=by
 obtain ⟨g,hs,rfl,hg,hl,hr,hM⟩:=h
 refine ⟨hs,?_,hM⟩
 have:=Row.own (B:=B) (e:=fF) hr hg (by unfold maxLen;omega)
 rw [hl] at this
 exact this.is (by decide) hB
theorem mil_three {B:Bs} {Bo:Nat} {l:List Lv} {v:Value} {u:World} (h:MiL B Bo l v u):∃ a n c,v=.slice a n c:=by
 obtain ⟨hs,h1,_⟩:=h
 obtain ⟨a,c,e⟩:=h1.len
 exact ⟨a,_,c,e⟩
theorem myB_make {B:Bs} {Bo:Nat} {b:Bk} {x y:Value} {hs1:List Hw} {w w':World} (hB:B.le Bo) (hBo:Bo≤w.heap.size) (hm:b.2.1.length≤1000000) (hi1:Is eF 106 B hs1 x w) (hm1:Mine B Bo b.1 hs1 w) (hb:Below w.heap.size w w') (hcl:ClF (B.but (Blk hs1)) w.heap.size b.2.1 y w'):∃ hs1 hs2,MyB B Bo b x y hs1 hs2 w':=by
 have hbk:=blk_ge hm1
 have hB2:(B.but (Blk hs1)).le w.heap.size:=Bs.but_le (hB.mono hBo) (fun b' hb'=>(hbk b' hb').2)
 obtain ⟨hs2,hi2,hm2⟩:=clF_is hcl hB2 hm
 have hbk2:=blk_ge hm2
 have hm2':Mine B Bo b.2.1 hs2 w':=by
  refine ⟨hm2.len,fun i a c ha hc=>?_,hm2.apart⟩
  obtain ⟨h1,css,h2,h3,h4⟩:=hm2.own i a c ha hc
  exact ⟨h1,Own.lower ⟨css,h2,h3,h4⟩ hBo⟩
 exact ⟨hs1,hs2,Is.stays eF 106 hi1 hb,hm1.stays hb,Is.up eF 106 (Bs.sub_but _ _) hi2,hm2',
  Is.stays eL 106 (Is.now eL 106 ((mine_lvs hB hm1).ll hi1) (fun b' hb'=>(hbk2 b' hb').1)) hb,
  (mine_lvs hB2 hm2).ll hi2⟩
theorem MyB.keep2 {B:Bs} {Bo:Nat} {b:Bk} {x y:Value} {hs1 hs2:List Hw} {w w':World} (hB:B.le Bo) (h:MyB B Bo b x y hs1 hs2 w) (hk:∀ A:Bs,A.lo=B.lo→∀ ts,57 ∉ ts→Keeps A ts w w'):MyB B Bo b x y hs1 hs2 w' :=
 ⟨Is.keep eF 106 h.i1 (hk B rfl _ (by decide)),h.m1.keep hB (hk B rfl _ (by decide)),Is.keep eF 106 h.i2 (hk B rfl _ (by decide)),h.m2.keep hB (hk B rfl _ (by decide)),
  Is.keep eL 106 h.o1 (hk (B.but _) rfl _ (by decide)),Is.keep eL 106 h.o2 (hk (B.but _) rfl _ (by decide))⟩
theorem MyB.lower {B:Bs} {Bo Bo':Nat} {b:Bk} {x y:Value} {hs1 hs2:List Hw} {w:World} (h:MyB B Bo' b x y hs1 hs2 w) (k:Bo≤Bo'):MyB B Bo b x y hs1 hs2 w :=
 ⟨h.i1,mine_lower h.m1 k,h.i2,mine_lower h.m2 k,h.o1,h.o2⟩
theorem clonedB_any (B:Bs) (b:Bk) (v:Value) (w:World) (h:BL B b v w) (hB:B.le w.heap.size) (h1:b.1.length≤1000000) (h2:(flat b.1).length≤1000000) (h3:b.2.1.length≤1000000) (h4:(flat b.2.1).length≤1000000) :
  Calls Tryz.prog 185 #[v] w fun e w'=>∃ x y hs1 hs2,e=.returned (.agg #[x,y,.int .i64 b.2.2])∧Below w.heap.size w w'∧MyB B w.heap.size b x y hs1 hs2 w':=by
 obtain ⟨x,y,rfl,hx,hy⟩:=h
 obtain ⟨n,hn⟩:∃ n,b.2.2=n:=⟨_,rfl⟩
 rw [hn]
 obtain ⟨a1,c1,rfl⟩:=hx.len
 obtain ⟨a2,c2,rfl⟩:=hy.len
 obtain ⟨s,hs⟩:∃ s,s=w.heap.size:=⟨_,rfl⟩
 obtain ⟨V,hV⟩:∃ V,V=(w.alloc (.cells #[.slice a1 b.1.length c1,.slice a2 b.2.1.length c2,.int .i64 n] 57)).alloc (.cells #[.slice none 0 0,.slice none 0 0,.int .i64 0] 57):=⟨_,rfl⟩
 have hbV:Below w.heap.size w V:=hV ▸ below2 w _ _
 have hzV:V.heap.size=s+2:=by rw [hV,hs];simp
 have hk0:V.heap[s]?=some (.cells #[.slice a1 b.1.length c1,.slice a2 b.2.1.length c2,.int .i64 n] 57 (0,0)):=by
  rw [hV,hs]
  exact ((below1 _ _).block _ (by simp)).trans (heap_alloc_new w _)
 have hk1:V.heap[s+1]?=some (.cells #[.slice none 0 0,.slice none 0 0,.int .i64 0] 57 (0,0)):=by
  have:=heap_alloc_new (w.alloc (.cells #[.slice a1 b.1.length c1,.slice a2 b.2.1.length c2,.int .i64 n] 57)) (.cells #[.slice none 0 0,.slice none 0 0,.int .i64 0] 57)
  rw [World.size_alloc] at this
  rw [hV,hs];exact this
 have HK1:=lH hk1
 have HX:=lH (show ∀ u,Below V.heap.size V u→LL B b.1 (.slice a1 b.1.length c1) u∧B.le u.heap.size from fun u hu=>⟨Is.stays eL 106 hx (nx hbV hu),hB.mono (nx hbV hu).size⟩)
 have HY:=lH (Is.stays eL 106 hy hbV)
 have hF:∀ u,V.grownBy u (some (s+1))→u.cell? ⟨s,0,none⟩=some (.slice a1 b.1.length c1)∧u.cell? ⟨s,1,none⟩=some (.slice a2 b.2.1.length c2)∧u.cell? ⟨s,2,none⟩=some (.int .i64 n):=fun u hu=>by
  refine ⟨?_,?_,?_⟩<;>(rw [grown_cell hu (by omega) (by simp)];simp [World.cell?,hk0])
 have HV:=lH hV
 have HS:=lH hs
 have HBV:=lH hbV
 have HB:Hid (B.le V.heap.size):=lH (hB.mono hbV.size)
 rw [← hs]
 clear hx hy hV hk0 hk1 hn hbV hs
 go_enter Tryz.func185,Tryz.ntmps185
 go_wp2
 rw [← HV.out,← HS.out]
 refine Rh.rg (fun u=>V.grownBy u (some (s+1))) (fun u=>Below V.heap.size V u) (grown_stays V _) (fun _ _ h k=>nx h k) (grown_drew V _) ((Below.refl _ _).drew) [0,1,3,4,6,7,2,5,8,9] ?_
 repeat (first | (refine Rh.Steps.sk ?_;simp only [Act.put,sA,sB,sC]) | (refine Rh.Steps.pu (v:=?_) ?_ ?_;rotate_left;(intro w_ hS_;have hk_:=hF w_ hS_;go_simp<;>with_reducible rfl);simp only [Act.put,sA,sB,sC]))
 refine Rh.Steps.forced (i:=2) (by kernel_rfl) ?_
 refine Rh.One.call (fun v u=>MiL B V.heap.size b.1 v u) (fun v _ _ h k=>h.stays k) (f:=?_) (args:=?_) (by rfl) (by rfl) ?_ ?_ ?_
 rotate_left 2
 ·intro w_ hS_ hG_;go_simp<;>first | with_reducible rfl | (constructor<;>with_reducible rfl)
 ·intro w_ hS_ hG_;(go_at_call 206;refine (clonedLv_any B b.1 _ w_ (HX.out w_ hG_).1 (HX.out w_ hG_).2 h1 h2).mono ?_;rintro e w' ⟨v,rfl,hb1,hcl⟩;obtain ⟨hs,q1,q2⟩:=clF_is hcl (HX.out w_ hG_).2 h1;exact ⟨v,rfl,hb1,hs,q1,mine_lower q2 hG_.size⟩)
 intro v1 u_ hv1
 simp only [Act.put,sA,sB,sC]
 obtain ⟨a3,n3,c3,rfl⟩:=mil_three hv1
 refine Rh.Steps.forced (i:=5) (by kernel_rfl) ?_
 refine Rh.One.call (fun v u=>∃ a n c,v=.slice a n c∧∃ hs1 hs2,MyB B V.heap.size b (.slice a3 n3 c3) v hs1 hs2 u) (fun v _ _ h k=>by obtain ⟨a,n,c,e,x1,x2,h⟩:=h;exact ⟨a,n,c,e,x1,x2,h.stays k⟩) (f:=?_) (args:=?_) (by rfl) (by rfl) ?_ ?_ ?_
 rotate_left 2
 ·intro w_ hS_ hG_;go_simp<;>first | with_reducible rfl | (constructor<;>with_reducible rfl)
 ·intro w_ hS_ hG_;(go_at_call 206;obtain ⟨hs1,q1,q2⟩:=hG_.2;have hbk:=blk_ge q2;refine (clonedLv_any (B.but (Blk hs1)) b.2.1 _ w_ (Is.stays eL 106 (Is.now eL 106 HY.out (fun b' hb'=>(hbk b' hb').1)) hG_.1) (Bs.but_le (HX.out w_ hG_.1).2 (fun b' hb'=>(hbk b' hb').2)) h3 h4).mono ?_;rintro e w' ⟨v,rfl,hb1,hcl⟩;obtain ⟨g,hs,e,_⟩:=id hcl;exact ⟨v,rfl,hb1,_,_,_,e,myB_make HB.out hG_.1.size h3 q1 q2 hb1 hcl⟩)
 intro v2 u_ hv2
 simp only [Act.put,sA,sB,sC]
 obtain ⟨a4,n4,c4,rfl,_⟩:=hv2
 repeat (first | (refine Rh.Steps.sk ?_;simp only [Act.put,sA,sB,sC]) | (refine Rh.Steps.pu (v:=?_) ?_ ?_;rotate_left;(intro w_ hS_;have hk_:=hF w_ hS_;go_simp<;>with_reducible rfl);simp only [Act.put,sA,sB,sC]))
 refine Rh.Steps.forced (i:=9) (by kernel_rfl) ?_
 refine Rh.One.store (fun u=>Below w.heap.size w u∧u.heap[s+1]?=some (.cells #[.slice a3 n3 c3,.slice a4 n4 c4,.int .i64 n] 57 (0,0))∧∃ hs1 hs2,MyB B s b (.slice a3 n3 c3) (.slice a4 n4 c4) hs1 hs2 u) (fun u u' h k=>by
  obtain ⟨q1,q2,x1,x2,q3⟩:=h
  exact ⟨nx q1 k,(k.block _ (Array.getElem?_eq_some_iff.1 q2).1).trans q2,x1,x2,q3.stays k⟩) (by rfl) (by rfl) ?_ ?_
 ·intro w_ hS_ hG_
  obtain ⟨⟨hG1,_⟩,a9,n9,c9,e9,x1,x2,hM⟩:=hG_
  have g1:=(hG1.block _ (by omega)).trans HK1.out
  have p1:plain 3 w_ (s+1)=true:=by simp [Rw.plain,g1]
  have hsw:s+1<w_.heap.size:=(Array.getElem?_eq_some_iff.1 g1).1
  refine ⟨w_.setRow (s+1) #[.slice a3 n3 c3,.slice a4 n4 c4,.int .i64 n],?_,grown_trans hS_ (setRow_grown _ _ _),below_setRow (nx HBV.out hG1) (by rw [← HS.out];omega) _,setRow_heap w_ _ _ _ _ _ g1,x1,x2,?_⟩
  ·clear hS_ hM g1 hG1
   go_simp
  ·refine MyB.keep2 (B:=B) (Bs.le.mono hB (by rw [← HS.out];exact Nat.le_refl _)) (hM.lower (by omega)) (fun A hA ts ht=>keeps_setRow _ g1 ht ?_)
   have:=hB.1
   rw [hA];rw [← HS.out] at this;omega
 refine Rh.Steps.nil (by kernel_rfl) ?_
 intro w4 _ hG4
 obtain ⟨q1,q2,x1,x2,q3⟩:=hG4
 rw [← HS.out] at q1
 have hrow:Rw.row w4 (s+1)=#[.slice a3 n3 c3,.slice a4 n4 c4,.int .i64 n]:=by unfold Rw.row;rw [q2]
 have HQ:=lH (show _∧_ from ⟨q1,q3⟩)
 clear q1 q2 q3
 go_wp2
 refine bodyPost_ret (v:=.agg #[.slice a3 n3 c3,.slice a4 n4 c4,.int .i64 n]) (ret_B1 Tryz.results185 _ _ rfl ?c1) rfl ⟨_,_,x1,x2,rfl,HQ.out⟩
 case c1=>simp [go_sem,hrow]
end Go.Proofs.YtjhocpcpkemcaaaGreat.Bk
