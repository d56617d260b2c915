/- Package lane as it landed: owe, settle. -/
import Derived.Test.YtjhocpcpkemcaaaGreatQeZZ
import Derived.Test.YtjhocpcpkemcaaaGreatQeBL
set_option linter.unusedVariables false
set_option maxRecDepth 16000
set_option maxHeartbeats 32000000
namespace Go.Proofs.YtjhocpcpkemcaaaGreat.La
open Go.RowKit
open Rw
open Da
open Le
open Bk
open Ac (Hd Pu HL pmay pmay_iff tot total giveE giveL takeE takeL)
theorem sumP_app (s:Int) (l m:List Fl):sumP s (l++m)=sumP s l+sumP s m:=by
 induction l with
 | nil=>simp [sumP]
 | cons f r ih=>rw [List.cons_append,sumP,sumP,ih];omega
theorem sumG_app (s:Int) (l m:List Fl):sumG s (l++m)=sumG s l+sumG s m:=by
 induction l with
 | nil=>simp [sumG]
 | cons f r ih=>rw [List.cons_append,sumG,sumG,ih];omega
theorem sum_take {s:Int} {l:List Fl} {k:Nat} (h:k<l.length):sumP s (l.take (k+1))=sumP s (l.take k)+payF s l[k]∧sumG s (l.take (k+1))=sumG s (l.take k)+getF s l[k]:=by
 rw [Da.take_snoc h,sumP_app,sumG_app]
 simp [sumP,sumG]
theorem takeH_is {lo:Nat} {l:List Hd} {v:Value} {p q n E:Int} {w:World} (hE:Hid (takeE l (p,q) n=E)) (h:HL lo l v w) (hm:l.length≤1000000) :
  Calls Tryz.prog 149 #[v,.agg #[.int .i64 p,.int .i64 q],.int .i64 n] w fun e w'=>∃ a m c,e=.returned (.tuple #[.slice a m c,.int .i64 E])∧Below w.heap.size w w'∧HL lo (takeL l (p,q) n) (.slice a m c) w':=by
 rw [← hE.out]
 refine (Ac.take_any l v p q n w h hm).mono ?_
 rintro e w' ⟨v,rfl,hb,hf⟩
 obtain ⟨a,c,rfl⟩:=hl_slice hf
 exact ⟨a,_,c,rfl,hb,hf⟩
theorem cloneH_is {lo:Nat} {l:List Hd} {x:Value} {w:World} (h:HL lo l x w) (hlo:lo≤w.heap.size) (hm:l.length≤1000000) :
  Calls Tryz.prog 82 #[x] w fun e w'=>∃ a n c,e=.returned (.slice a n c)∧Below w.heap.size w w'∧HL lo l (.slice a n c) w':=by
 refine (cloneH_any l x w h hlo hm).mono ?_
 rintro e w' ⟨v,rfl,hb,ho⟩
 have hi:=is_hl (ho.is (by decide) ⟨hlo,fun _ h=>h.elim⟩)
 obtain ⟨a,c,rfl⟩:=hl_slice hi
 exact ⟨a,_,c,rfl,hb,hi⟩
theorem need_is {s p n m:Int} (hm:Hid (ndN s p n=m)) (hp:0≤p∧p≤1048576) (hn:0≤n∧n≤1048576) (w:World) :
  Calls Tryz.prog 112 #[.int .i64 s,.int .i64 p,.int .i64 n] w fun e w'=>e=.returned (.int .i64 m)∧w=w':=by
 rw [← hm.out];exact need_any s p n w hp hn
theorem lowe_any (B:Bs) (l:Ln) (v:Value) (sd:Int) (fs:List Fl) (fv:Value) (w:World) (S:List Hd × Int × Int × Int) (hS:stl l.1 l.2.1 sd fs l.2.2.2 0 0=S) (h:LN B l v w) (hB:B.le w.heap.size) (hf:FL B fs fv w) (hok:∀ f∈fs,okF f) (hlen:fs.length≤1000) (hod:l.2.2.2.length≤1000) :
  Calls Tryz.prog 152 #[v,.int .i64 sd,fv] w fun e w'=>∃ a n c,e=.returned (.tuple #[.slice a n c,.int .i64 S.2.2.2])∧Below w.heap.size w w'∧(S.2.2.2=0→HL B.lo S.1 (.slice a n c) w'):=by
 obtain ⟨lb,lq,⟨bu,se,nn⟩,od⟩:=l
 simp only at hod hS
 obtain ⟨a1,n1,c1,a2,n2,c2,a3,n3,c3,rfl,e1,e2,e3,hl1,hl2,hl3⟩:=h.open'
 simp only at e1 e2 e3 hl1 hl2 hl3
 obtain ⟨V,hV⟩:∃ V,V=w.alloc (.cells (cN lb lq (.slice a1 n1 c1) (.slice a2 n2 c2) nn (.slice a3 n3 c3)) 137):=⟨_,rfl⟩
 have hbV:Below w.heap.size w V:=hV ▸ below1 w _
 have hx0:VB B (lb,lq,(bu,se,nn),od) (.slice a1 n1 c1) (.slice a2 n2 c2) (.slice a3 n3 c3) w.heap.size V:=by rw [hV];exact VB.made (l:=(lb,lq,(bu,se,nn),od)) hl1 hl2 hl3 hB.1
 have HX:=lH hx0
 have HB:=lH (show ∀ u,Below w.heap.size w u→B.le u.heap.size from fun u hu=>hB.mono hu.size)
 have HFl:=lH (show ∀ u,Below w.heap.size w u→FL B fs fv u from fun u hu=>Is.stays eFl 159 hf hu)
 obtain ⟨fa,fc,rfl⟩:=hf.len
 obtain ⟨fn,hfn⟩:∃ fn,fs.length=fn:=⟨_,rfl⟩
 rw [hfn] at hlen HFl ⊢
 have HFn:=lH hfn
 have HS:=lH hS
 have HOk:=lH hok
 have hodm:od.length≤1000000:=by omega
 obtain ⟨r0,r1,r2,r3,r4,r5⟩:=hx0.cells
 simp only at r0 r1 r2 r3 r4 r5
 have z0:=hx0.lt
 rw [hV] at r5 z0
 have HV:=lH hV
 clear hx0 hfn hS hok hV hl1 hl2 hl3 h hB hf e1 e2 e3 r0 r1 r2 r3 r4
 go_enter Tryz.func152,Tryz.ntmps152
 go_wp2_with fail
 rw [← HV.out]
 refine (cloneH_is HX.out.l3 (HB.out V hbV).1 hodm).mono ?_
 rintro e w1 ⟨ao,no,co,rfl,hb1,ho1⟩
 have hbw1:=nx hbV hb1
 have HO1:=lH ho1
 clear r5 z0 ho1
 go_wp2
 go_loopw [8,9,11,18] (fun o er _ i wr=>∃ (k:Nat) (pk gk:Int) (owl:List Hd) (ak:Option Addr) (nk ck:Nat),k≤fn∧i=.int .i64 k∧o=.slice ak nk ck∧er=.int .i64 0∧owl.length≤1000∧HL B.lo owl (.slice ak nk ck) wr∧Below w1.heap.size w1 wr∧stl lb lq sd (fs.drop k) owl pk gk=S) (fun _ _ _ i _=>fn - (intOf i).toNat)
 case atStart=>exact ⟨0,0,0,od,ao,no,co,Nat.zero_le _,rfl,rfl,rfl,hod,HO1.out,Below.refl _ _,HS.out⟩
 case round =>
  obtain ⟨k,pk,gk,owl,ak,nk,ck,hk,rfl,rfl,rfl,how,hho,hb,hrest⟩:=hrel
  have HRest:=lH hrest
  have HH:=lH hho
  have hbw:=nx hbw1 hb
  have HXr:=lH (HX.out.stays (nx hb1 hb))
  clear hrest hho
  by_cases hlt:k<fn
  ·have hlt2:(k:Int)<fn:=by omega
   have hkf:k<fs.length:=by rw [HFn.out];exact hlt
   have hfl:=HFl.out wr hbw
   rw [← HFn.out] at hfl
   rcases hfl.cases with ⟨e,_⟩ | ⟨_,g,off,cc,e,hat⟩
   ·rw [e] at hkf;cases hkf
   simp only [Value.slice.injEq] at e
   obtain ⟨rfl,_,rfl⟩:=e
   obtain ⟨s0,s1,s2,s3,s4⟩:=atFl hat k hkf
   have hbb:=hat.1
   have hstep:=stl_drop (b:=lb) (q:=lq) (s:=sd) hkf owl pk gk
   rw [HRest.out] at hstep
   have hoo:=HOk.out _ (List.getElem_mem hkf)
   obtain ⟨⟨y1,y2,y3,y4,y5⟩,hy⟩:∃ x,fs[k]'hkf=x:=⟨_,rfl⟩
   rw [hy] at s0 s1 s2 s3 s4 hstep hoo
   unfold okF at hoo
   simp only at s0 s1 s2 s3 s4 hoo
   obtain ⟨m,hm⟩:∃ m,payF sd (y1,y2,y3,y4,y5)=m:=⟨_,rfl⟩
   obtain ⟨ga,hga⟩:∃ ga,astF lb lq sd=ga:=⟨_,rfl⟩
   rw [hm,hga] at hstep
   have HM1:Hid (ndN sd y3 y4=m):=lH hm
   have HA1:Hid (ndA lb lq sd=ga):=lH hga
   obtain ⟨E,hE⟩:∃ E,giveE owl (y2,ga) m=E:=⟨_,rfl⟩
   have HE:=lH hE
   rw [show (y1,y2,y3,y4,y5).2.1=y2 from rfl,hE] at hstep
   have HStep:=lH hstep
   obtain ⟨M,hM⟩:∃ M,M=wr.alloc (.cells #[.int .i64 y1,.int .i64 y2,.int .i64 y3,.int .i64 y4,.bool y5] 159):=⟨_,rfl⟩
   have hbM:Below wr.heap.size wr M:=hM ▸ below1 wr _
   have hMf:M.heap[wr.heap.size]?=some (.cells #[.int .i64 y1,.int .i64 y2,.int .i64 y3,.int .i64 y4,.bool y5] 159 (0,0)):=by rw [hM];exact heap_alloc_new wr _
   have HM:=lH hM
   have hF:∀ u,Below M.heap.size M u→row u w.heap.size=cN lb lq (.slice a1 n1 c1) (.slice a2 n2 c2) nn (.slice a3 n3 c3)∧u.cell? ⟨wr.heap.size,1,none⟩=some (.int .i64 y2)∧u.cell? ⟨wr.heap.size,2,none⟩=some (.int .i64 y3)∧u.cell? ⟨wr.heap.size,3,none⟩=some (.int .i64 y4):=fun u hu=>by
    have hb:=(hu.block _ (Array.getElem?_eq_some_iff.1 hMf).1).trans hMf
    refine ⟨(HXr.out.stays (nx hbM hu)).row,?_,?_,?_⟩<;>simp [World.cell?,hb]
   have howm:owl.length≤1000000:=by omega
   clear hfl hat hy hM hstep hm hga hE
   go_upto_region 5 with fail
   rw [← HM.out]
   refine Rh.rb [0,1,2,3,4,5,6,7,8,9,10,11,12,13,14,15,16,17] ?_
   repeat (first | (refine Rh.Steps.sk ?_;simp only [Act.put,sA,sB,sC]) | (refine Rh.Steps.pu (v:=?_) ?_ ?_;rotate_left;(intro w_ hS_;have hk_:=hF w_ hS_;go_simp<;>with_reducible rfl);simp only [Act.put,sA,sB,sC]) | (refine Rh.Steps.ca (v:=?_) (f:=?_) (args:=?_) ?_ ?_ ?_;rotate_left 3;(intro w_ hS_;have hk_:=hF w_ hS_;go_simp<;>first | with_reducible rfl | (constructor<;>with_reducible rfl));(intro w_ hS_;have hk_:=hF w_ hS_;first | (go_at_call 111;refine (lpurse_is HA1.out _ _ _ _ _ _ _ _ _ y2 _).mono ?_;first | (rintro e w_ ⟨rfl,rfl⟩;refine ⟨?_,Below.refl _ _⟩;with_reducible rfl) | (rintro e w_ ⟨rfl,hb_⟩;refine ⟨?_,hb_⟩;with_reducible rfl)) | (go_at_call 112;refine (need_is HM1 ⟨hoo.1,hoo.2.1⟩ ⟨hoo.2.2.1,hoo.2.2.2⟩ _).mono ?_;first | (rintro e w_ ⟨rfl,rfl⟩;refine ⟨?_,Below.refl _ _⟩;with_reducible rfl) | (rintro e w_ ⟨rfl,hb_⟩;refine ⟨?_,hb_⟩;with_reducible rfl)));simp only [Act.put,sA,sB,sC]))
   refine Rh.Steps.forced (i:=12) (by kernel_rfl) ?_
   refine Rh.One.call (fun v u=>∃ a n c,v=.tuple #[.slice a n c,.int .i64 E]∧HL B.lo (giveL owl (y2,ga) m) (.slice a n c) u) (fun _ _ _ ⟨a,n,c,e,h⟩ k=>⟨a,n,c,e,hl_stays h k⟩) (f:=?_) (args:=?_) (by rfl) (by rfl) ?_ ?_ ?_
   rotate_left 2
   ·intro w_ hS_ hG_;go_simp<;>first | with_reducible rfl | (constructor<;>with_reducible rfl)
   ·intro w_ hS_ hG_;(go_at_call 148;refine (giveH_is HE (hl_stays HH.out (nx hbM hS_)) howm).mono ?_;rintro e w' ⟨a,n,c,rfl,hb9,ho⟩;exact ⟨_,rfl,hb9,a,n,c,rfl,ho⟩)
   intro v1 u_ hv1
   simp only [Act.put,sA,sB,sC]
   obtain ⟨an,nn',cn',rfl,-⟩:=hv1
   repeat (first | (refine Rh.Steps.sk ?_;simp only [Act.put,sA,sB,sC]) | (refine Rh.Steps.pu (v:=?_) ?_ ?_;rotate_left;(intro w_ hS_;skip;go_simp<;>with_reducible rfl);simp only [Act.put,sA,sB,sC]))
   refine Rh.Steps.nil (by kernel_rfl) ?_
   rintro w9 hS9 ⟨_,a',n',c',e',ho9⟩
   simp only [Value.tuple.injEq,Array.mk.injEq,List.cons.injEq,Value.slice.injEq,and_true] at e'
   obtain ⟨rfl,rfl,rfl⟩:=e'
   have HO9:=lH ho9
   have hb9:=nx hb (nx hbM hS9)
   clear ho9 hF hMf
   by_cases hE0:E=0
   ·subst hE0
    have HS1:Hid (stl lb lq sd (fs.drop (k+1)) (giveL owl (y2,ga) m) (pk+m) (gk+getF sd (y1,y2,y3,y4,y5))=S):=lH (by rw [HStep.out,if_pos rfl])
    have hgl:=give_len HE.out
    go_wp2
    go_roundw
    case rel=>exact ⟨k+1,_,_,_,_,_,_,by omega,by go_num,rfl,rfl,hgl,HO9.out,hb9,HS1.out⟩
    case measure=>simp [intOf];omega
   ·have hde:(E != 0)=true:=by simpa using hE0
    have HS1:Hid (S=(owl,0,0,E)):=lH (by rw [HStep.out,if_neg hE0])
    clear hE0
    go_wp2
    go_ret2
    exact ⟨none,0,0,by rw [HS1.out];rfl,nx hbw1 hb9,fun e=>absurd (show E=0 by rw [HS1.out] at e;exact e) (by simpa using hde)⟩
  ·obtain rfl:k=fn:=by omega
   have HZ:Hid (S.1=owl∧S.2.2.2=0):=lH (by
    rw [← HRest.out,← HFn.out,List.drop_length]
    exact ⟨rfl,rfl⟩)
   clear hlt
   go_wp2
   go_ret2
   exact ⟨ak,nk,ck,by rw [HZ.out.2];rfl,hbw,fun _=>by rw [HZ.out.1];exact HH.out⟩
def setE (b q ow s:Int) (fr:List Hd) (P G:Int):Int:=if takeE fr (ow,ndA b q s) P=0 then giveE (takeL fr (ow,ndA b q s) P) (ow,ndA b q (othS s)) G else takeE fr (ow,ndA b q s) P
theorem other_is {s t:Int} (h:Hid (othS s=t)) (w:World):Calls Tryz.prog 190 #[.int .i64 s] w fun e w'=>e=.returned (.int .i64 t)∧w=w':=by
 rw [← h.out];exact other_any s w
theorem take_len' {l:List Hd} {p:Pu} {n:Int} (h:takeE l p n=0):(takeL l p n).length≤1000000:=by
 obtain ⟨t1,t2,_⟩:=take_ok h
 have:=Ac.right_512 (Ac.take_done t1 t2 h).1
 omega
theorem lsettle_any (B:Bs) (l:Ln) (v:Value) (fr:List Hd) (fv:Value) (o0 ow s p L:Int) (fs:List Fl) (gv:Value) (w:World) (h:LN B l v w) (hfr:HL B.lo fr fv w) (hB:B.le w.heap.size) (hf:FL B fs gv w) (hok:∀ f∈fs,okF f) (hlen:fs.length≤40) (hfm:fr.length≤1000)
  (hs:s=1∨s=2) (hp:0≤p∧p≤1048576) (hL:0≤L∧L≤1048576) (E:Int) (hE:setE l.1 l.2.1 ow s fr (ndN s p L+sumP s fs) (sumG s fs)=E) :
  Calls Tryz.prog 153 #[v,fv,.agg #[.int .i64 o0,.int .i64 ow,.int .i64 s,.int .i64 p,.int .i64 L],gv] w fun e w'=>∃ a n c,e=.returned (.tuple #[.slice a n c,.int .i64 E])∧Below w.heap.size w w'∧(E=0→takeE fr (ow,ndA l.1 l.2.1 s) (ndN s p L+sumP s fs)=0∧HL B.lo (giveL (takeL fr (ow,ndA l.1 l.2.1 s) (ndN s p L+sumP s fs)) (ow,ndA l.1 l.2.1 (othS s)) (sumG s fs)) (.slice a n c) w'):=by
 obtain ⟨lb,lq,⟨bu,se,nn⟩,od⟩:=l
 simp only at hE ⊢
 obtain ⟨a1,n1,c1,a2,n2,c2,a3,n3,c3,rfl,e1,e2,e3,hl1,hl2,hl3⟩:=h.open'
 simp only at e1 e2 e3 hl1 hl2 hl3
 obtain ⟨V,hV⟩:∃ V,V=(w.alloc (.cells (cN lb lq (.slice a1 n1 c1) (.slice a2 n2 c2) nn (.slice a3 n3 c3)) 137)).alloc (.cells #[.int .i64 o0,.int .i64 ow,.int .i64 s,.int .i64 p,.int .i64 L] 74):=⟨_,rfl⟩
 have hbV:Below w.heap.size w V:=hV ▸ below2 w _ _
 have hx0:VB B (lb,lq,(bu,se,nn),od) (.slice a1 n1 c1) (.slice a2 n2 c2) (.slice a3 n3 c3) w.heap.size V:=by rw [hV];exact (VB.made (l:=(lb,lq,(bu,se,nn),od)) hl1 hl2 hl3 hB.1).stays (below1 _ _)
 have ho0:V.heap[w.heap.size+1]?=some (.cells #[.int .i64 o0,.int .i64 ow,.int .i64 s,.int .i64 p,.int .i64 L] 74 (0,0)):=by
  have:=heap_alloc_new (w.alloc (.cells (cN lb lq (.slice a1 n1 c1) (.slice a2 n2 c2) nn (.slice a3 n3 c3)) 137)) (.cells #[.int .i64 o0,.int .i64 ow,.int .i64 s,.int .i64 p,.int .i64 L] 74)
  rw [World.size_alloc] at this
  rw [hV];exact this
 have HX:=lH hx0
 have HO:=lH ho0
 have HB:=lH (show ∀ u,Below w.heap.size w u→B.le u.heap.size from fun u hu=>hB.mono hu.size)
 have HFl:=lH (show ∀ u,Below w.heap.size w u→FL B fs gv u from fun u hu=>Is.stays eFl 159 hf hu)
 have HFr:=lH (show ∀ u,Below w.heap.size w u→HL B.lo fr fv u from fun u hu=>hl_stays hfr hu)
 obtain ⟨ga,gc,rfl⟩:=hf.len
 obtain ⟨gn,hgn⟩:∃ gn,fs.length=gn:=⟨_,rfl⟩
 obtain ⟨fa,fc,rfl⟩:=hl_slice hfr
 obtain ⟨fn,hfn⟩:∃ fn,fr.length=fn:=⟨_,rfl⟩
 rw [hgn] at hlen HFl ⊢
 rw [hfn] at hfm HFr ⊢
 have HGn:=lH hgn
 have HFn:=lH hfn
 have HOk:=lH hok
 have HEq:=lH hE
 have hnd:=ndN_bd (s:=s) hp.1 hp.2 hL.1 hL.2
 obtain ⟨nd,hndq⟩:∃ nd,ndN s p L=nd:=⟨_,rfl⟩
 rw [hndq] at hnd ⊢
 have HNd:=lH hndq
 have hsb:=sum_bd (s:=s) hok
 obtain ⟨sp,hsp⟩:∃ x,sumP s fs=x:=⟨_,rfl⟩
 obtain ⟨sg,hsg⟩:∃ x,sumG s fs=x:=⟨_,rfl⟩
 rw [hsp,hsg,hgn] at hsb
 rw [hsp,hsg]
 have HSm:=lH (And.intro hsp hsg)
 obtain ⟨ua,hua⟩:∃ x,ndA lb lq s=x:=⟨_,rfl⟩
 obtain ⟨us,hus⟩:∃ x,othS s=x:=⟨_,rfl⟩
 obtain ⟨ub,hub⟩:∃ x,ndA lb lq us=x:=⟨_,rfl⟩
 rw [hua,hus,hub]
 have HU:=lH (show ndA lb lq s=ua∧ndA lb lq us=ub from ⟨hua,hub⟩)
 have HUs:=lH hus
 have hget:∀ f:Fl,getF s f=ndN us f.2.2.1 f.2.2.2.1:=fun f=>by
  rw [← hus]
  unfold getF ndN othS
  rcases hs with rfl | rfl
  ·rfl
  ·rfl
 have HGet:=lH hget
 have HE0:Hid (E=if takeE fr (ow,ua) (nd+sp)=0 then giveE (takeL fr (ow,ua) (nd+sp)) (ow,ub) sg else takeE fr (ow,ua) (nd+sp)):=lH (by rw [← HEq.out];unfold setE;rw [hua,hus,hub,hndq,hsp,hsg])
 have o2:V.cell? ⟨w.heap.size+1,2,none⟩=some (.int .i64 s):=by simp [World.cell?,ho0]
 have o3:V.cell? ⟨w.heap.size+1,3,none⟩=some (.int .i64 p):=by simp [World.cell?,ho0]
 have o4:V.cell? ⟨w.heap.size+1,4,none⟩=some (.int .i64 L):=by simp [World.cell?,ho0]
 have z0:=(Array.getElem?_eq_some_iff.1 ho0).1
 rw [hV] at o2 o3 o4 z0
 have HV:=lH hV
 clear hx0 ho0 hgn hfn hok hV hl1 hl2 hl3 h hB hf hfr e1 e2 e3 hE hndq hsp hsg hua hus hub hget hs
 go_enter Tryz.func153,Tryz.ntmps153
 go_wp2_with fail
 rw [← HV.out]
 refine (need_is HNd hp hL V).mono ?_
 rintro e w1 ⟨rfl,rfl⟩
 clear o2 o3 o4 z0
 go_wp2
 go_loopw [10,11,13,25] (fun pv gv _ i wr=>∃ (k:Nat) (pk gk:Int),k≤gn∧i=.int .i64 k∧pv=.int .i64 (nd+pk)∧gv=.int .i64 gk∧sumP s (fs.take k)=pk∧sumG s (fs.take k)=gk∧Below V.heap.size V wr) (fun _ _ _ i _=>gn - (intOf i).toNat)
 case atStart=>exact ⟨0,0,0,Nat.zero_le _,rfl,by simp,rfl,rfl,rfl,Below.refl _ _⟩
 case round =>
  obtain ⟨k,pk,gk,hk,rfl,rfl,rfl,hpk,hgk,hb⟩:=hrel
  have hbw:=nx hbV hb
  have hkb:=sum_bd (s:=s) (fs:=fs.take k) fun f hf=>HOk.out f (List.mem_of_mem_take hf)
  have hkl:=List.length_take_le k fs
  rw [hpk,hgk] at hkb
  have hpkb:0≤pk∧pk≤43980465111040∧0≤gk∧gk≤43980465111040:=by omega
  have HPk:=lH (And.intro hpk hgk)
  clear hkb hkl hpk hgk
  by_cases hlt:k<gn
  ·have hlt2:(k:Int)<gn:=by omega
   have hkf:k<fs.length:=by rw [HGn.out];exact hlt
   have hfl:=HFl.out wr hbw
   rw [← HGn.out] at hfl
   rcases hfl.cases with ⟨e,_⟩ | ⟨_,g,off,cc,e,hat⟩
   ·rw [e] at hkf;cases hkf
   simp only [Value.slice.injEq] at e
   obtain ⟨rfl,_,rfl⟩:=e
   obtain ⟨s0,s1,s2,s3,s4⟩:=atFl hat k hkf
   have hbb:=hat.1
   have hstep:=sum_take (s:=s) hkf
   rw [HPk.out.1,HPk.out.2,HGet.out] at hstep
   have hoo:=HOk.out _ (List.getElem_mem hkf)
   have hpay:=pay_bd (s:=s) hoo
   rw [HGet.out] at hpay
   obtain ⟨⟨y1,y2,y3,y4,y5⟩,hy⟩:∃ x,fs[k]'hkf=x:=⟨_,rfl⟩
   rw [hy] at s0 s1 s2 s3 s4 hstep hoo hpay
   unfold okF at hoo
   simp only at s0 s1 s2 s3 s4 hoo hstep hpay
   obtain ⟨m,hm⟩:∃ m,payF s (y1,y2,y3,y4,y5)=m:=⟨_,rfl⟩
   obtain ⟨m2,hm2⟩:∃ m,ndN us y3 y4=m:=⟨_,rfl⟩
   rw [hm,hm2] at hstep hpay
   have HM1:Hid (ndN s y3 y4=m):=lH hm
   have HM2:=lH hm2
   have HStep:=lH hstep
   obtain ⟨M,hM⟩:∃ M,M=wr.alloc (.cells #[.int .i64 y1,.int .i64 y2,.int .i64 y3,.int .i64 y4,.bool y5] 159):=⟨_,rfl⟩
   have hbM:Below wr.heap.size wr M:=hM ▸ below1 wr _
   have hMf:M.heap[wr.heap.size]?=some (.cells #[.int .i64 y1,.int .i64 y2,.int .i64 y3,.int .i64 y4,.bool y5] 159 (0,0)):=by rw [hM];exact heap_alloc_new wr _
   have HM:=lH hM
   have hF:∀ u,Below M.heap.size M u→(u.cell? ⟨w.heap.size+1,2,none⟩=some (.int .i64 s)∧w.heap.size+1<u.heap.size)∧wr.heap.size<u.heap.size∧u.cell? ⟨wr.heap.size,2,none⟩=some (.int .i64 y3)∧u.cell? ⟨wr.heap.size,3,none⟩=some (.int .i64 y4):=fun u hu=>by
    have hb1:=(hu.block _ (Array.getElem?_eq_some_iff.1 hMf).1).trans hMf
    have hb2:=((nx (nx hb hbM) hu).block _ (Array.getElem?_eq_some_iff.1 HO.out).1).trans HO.out
    refine ⟨⟨by simp [World.cell?,hb2],(Array.getElem?_eq_some_iff.1 hb2).1⟩,(Array.getElem?_eq_some_iff.1 hb1).1,?_,?_⟩<;>simp [World.cell?,hb1]
   obtain ⟨⟨f1,f2⟩,f3,f4,f5⟩:=hF M (Below.refl _ _)
   have hw1:IntKind.i64.wrap (nd+pk+m)=nd+pk+m:=IntWalk.i64_in _ (by omega)
   have hw2:IntKind.i64.wrap (gk+m2)=gk+m2:=IntWalk.i64_in _ (by omega)
   rw [hM] at f1 f2 f3 f4 f5
   clear hfl hat hy hM hstep hm hm2
   go_wp2_with fail
   rw [← HM.out]
   refine (need_is HM1 ⟨hoo.1,hoo.2.1⟩ ⟨hoo.2.2.1,hoo.2.2.2⟩ M).mono ?_
   rintro e w2 ⟨rfl,rfl⟩
   clear f1 f2 f3 f4 f5
   go_upto_region 6 with fail
   refine Rh.rb [0,1,2,3,4,5,6,7,8,9,10] ?_
   repeat (first | (refine Rh.Steps.sk ?_;simp only [Act.put,sA,sB,sC]) | (refine Rh.Steps.pu (v:=?_) ?_ ?_;rotate_left;(intro w_ hS_;have hk_:=hF w_ hS_;go_simp<;>with_reducible rfl);simp only [Act.put,sA,sB,sC]) | (refine Rh.Steps.ca (v:=?_) (f:=?_) (args:=?_) ?_ ?_ ?_;rotate_left 3;(intro w_ hS_;have hk_:=hF w_ hS_;go_simp<;>first | with_reducible rfl | (constructor<;>with_reducible rfl));(intro w_ hS_;have hk_:=hF w_ hS_;first | (go_at_call 190;refine (other_is HUs _).mono ?_;first | (rintro e w_ ⟨rfl,rfl⟩;refine ⟨?_,Below.refl _ _⟩;with_reducible rfl) | (rintro e w_ ⟨rfl,hb_⟩;refine ⟨?_,hb_⟩;with_reducible rfl)) | (go_at_call 112;refine (need_is HM2 ⟨hoo.1,hoo.2.1⟩ ⟨hoo.2.2.1,hoo.2.2.2⟩ _).mono ?_;first | (rintro e w_ ⟨rfl,rfl⟩;refine ⟨?_,Below.refl _ _⟩;with_reducible rfl) | (rintro e w_ ⟨rfl,hb_⟩;refine ⟨?_,hb_⟩;with_reducible rfl)));simp only [Act.put,sA,sB,sC]))
   refine Rh.Steps.nil (by kernel_rfl) ?_
   rintro w9 hS9 -
   have hb9:=nx hb (nx hbM hS9)
   go_wp2
   go_roundw
   case rel=>exact ⟨k+1,pk+m,gk+m2,by omega,by go_num,by rw [Int.add_assoc],rfl,HStep.out.1,HStep.out.2,hb9⟩
   case measure=>simp [intOf];omega
  ·obtain rfl:k=gn:=by omega
   have hsp:pk=sp∧gk=sg:=by
    have h1:=HPk.out.1
    have h2:=HPk.out.2
    rw [← HGn.out,List.take_length] at h1 h2
    exact ⟨h1.symm.trans HSm.out.1,h2.symm.trans HSm.out.2⟩
   obtain ⟨rfl,rfl⟩:=hsp
   have HXr:=lH (HX.out.stays hb)
   have hF:∀ u,Below wr.heap.size wr u→row u w.heap.size=cN lb lq (.slice a1 n1 c1) (.slice a2 n2 c2) nn (.slice a3 n3 c3)∧u.cell? ⟨w.heap.size+1,1,none⟩=some (.int .i64 ow)∧u.cell? ⟨w.heap.size+1,2,none⟩=some (.int .i64 s):=fun u hu=>by
    have hb2:=((nx hb hu).block _ (Array.getElem?_eq_some_iff.1 HO.out).1).trans HO.out
    refine ⟨(HXr.out.stays hu).row,?_,?_⟩<;>simp [World.cell?,hb2]
   obtain ⟨f0,f1,f2⟩:=hF wr (Below.refl _ _)
   have z1:w.heap.size+1<wr.heap.size:=(Array.getElem?_eq_some_iff.1 ((hb.block _ (Array.getElem?_eq_some_iff.1 HO.out).1).trans HO.out)).1
   obtain ⟨P,hP⟩:∃ P,nd+pk=P:=⟨_,rfl⟩
   rw [hP] at HE0
   have hPb:0≤P∧P≤54980465111040:=by omega
   obtain ⟨E1,hE1⟩:∃ E1,takeE fr (ow,ua) P=E1:=⟨_,rfl⟩
   have HE1:=lH hE1
   have HFm:=lH (show fr.length≤1000000 by rw [HFn.out];omega)
   clear hE1 hlt
   go_wp2_with fail
   refine (lpurse_is HU.out.1 _ _ _ _ _ _ _ _ _ ow wr).mono ?_
   rintro e w2 ⟨rfl,hb2⟩
   clear f0 f1 f2 z1
   go_wp2_with fail
   refine (takeH_is HE1 (HFr.out w2 (nx hbw hb2)) HFm.out).mono ?_
   rintro e w3 ⟨a4,n4,c4,rfl,hb3,hf3⟩
   have hb23:=nx hb2 hb3
   by_cases hne:E1≠0
   ·have hde:(E1 != 0)=true:=by simpa using hne
    have HZ:Hid (E=E1):=lH (by rw [HE0.out,HE1.out,if_neg hne])
    clear hne
    go_wp2
    go_ret2
    exact ⟨none,0,0,by rw [HZ.out];rfl,nx hbw hb23,fun e=>absurd (HZ.out.symm.trans e) (by simpa using hde)⟩
   obtain rfl:E1=0:=by simpa using hne
   have HZ:Hid (E=giveE (takeL fr (ow,ua) P) (ow,ub) gk):=lH (by rw [HE0.out,HE1.out,if_pos rfl])
   have HZ2:Hid (giveE (takeL fr (ow,ua) P) (ow,ub) gk=E):=lH HZ.out.symm
   have HF3:=lH hf3
   have hF3:∀ u,Below w3.heap.size w3 u→row u w.heap.size=cN lb lq (.slice a1 n1 c1) (.slice a2 n2 c2) nn (.slice a3 n3 c3)∧u.cell? ⟨w.heap.size+1,1,none⟩=some (.int .i64 ow)∧u.cell? ⟨w.heap.size+1,2,none⟩=some (.int .i64 s):=fun u hu=>hF u (nx hb23 hu)
   have htl:=take_len' HE1.out
   clear hne hf3 hF
   go_upto_region 11 with fail
   refine Rh.rb [0,1,2,3,4,5,6,7,8,9,10,11,12,13] ?_
   repeat (first | (refine Rh.Steps.sk ?_;simp only [Act.put,sA,sB,sC]) | (refine Rh.Steps.pu (v:=?_) ?_ ?_;rotate_left;(intro w_ hS_;have hk_:=hF3 w_ hS_;go_simp<;>with_reducible rfl);simp only [Act.put,sA,sB,sC]) | (refine Rh.Steps.ca (v:=?_) (f:=?_) (args:=?_) ?_ ?_ ?_;rotate_left 3;(intro w_ hS_;have hk_:=hF3 w_ hS_;go_simp<;>first | with_reducible rfl | (constructor<;>with_reducible rfl));(intro w_ hS_;have hk_:=hF3 w_ hS_;first | (go_at_call 190;refine (other_is HUs _).mono ?_;first | (rintro e w_ ⟨rfl,rfl⟩;refine ⟨?_,Below.refl _ _⟩;with_reducible rfl) | (rintro e w_ ⟨rfl,hb_⟩;refine ⟨?_,hb_⟩;with_reducible rfl)) | (go_at_call 111;refine (lpurse_is HU.out.2 _ _ _ _ _ _ _ _ _ ow _).mono ?_;first | (rintro e w_ ⟨rfl,rfl⟩;refine ⟨?_,Below.refl _ _⟩;with_reducible rfl) | (rintro e w_ ⟨rfl,hb_⟩;refine ⟨?_,hb_⟩;with_reducible rfl)));simp only [Act.put,sA,sB,sC]))
   refine Rh.Steps.forced (i:=9) (by kernel_rfl) ?_
   refine Rh.One.call (fun v u=>∃ a n c,v=.tuple #[.slice a n c,.int .i64 E]∧HL B.lo (giveL (takeL fr (ow,ua) P) (ow,ub) gk) (.slice a n c) u) (fun _ _ _ ⟨a,n,c,e,h⟩ k=>⟨a,n,c,e,hl_stays h k⟩) (f:=?_) (args:=?_) (by rfl) (by rfl) ?_ ?_ ?_
   rotate_left 2
   ·intro w_ hS_ hG_;go_simp<;>first | with_reducible rfl | (constructor<;>with_reducible rfl)
   ·intro w_ hS_ hG_;(go_at_call 148;refine (giveH_is HZ2 (hl_stays HF3.out hS_) htl).mono ?_;rintro e w' ⟨a,n,c,rfl,hb9,ho⟩;exact ⟨_,rfl,hb9,a,n,c,rfl,ho⟩)
   intro v1 u_ hv1
   simp only [Act.put,sA,sB,sC]
   obtain ⟨an,nn',cn',rfl,-⟩:=hv1
   repeat (first | (refine Rh.Steps.sk ?_;simp only [Act.put,sA,sB,sC]) | (refine Rh.Steps.pu (v:=?_) ?_ ?_;rotate_left;(intro w_ hS_;skip;go_simp<;>with_reducible rfl);simp only [Act.put,sA,sB,sC]))
   refine Rh.Steps.nil (by kernel_rfl) ?_
   rintro w9 hS9 ⟨_,a',n',c',e',ho9⟩
   simp only [Value.tuple.injEq,Array.mk.injEq,List.cons.injEq,Value.slice.injEq,and_true] at e'
   obtain ⟨rfl,rfl,rfl⟩:=e'
   have HO9:=lH ho9
   have hb9:=nx hbw (nx hb23 hS9)
   clear ho9 hF3
   go_wp2
   go_ret2
   exact ⟨_,_,_,rfl,hb9,fun _=>by rw [hP];exact ⟨HE1.out,HO9.out⟩⟩
end Go.Proofs.YtjhocpcpkemcaaaGreat.La
