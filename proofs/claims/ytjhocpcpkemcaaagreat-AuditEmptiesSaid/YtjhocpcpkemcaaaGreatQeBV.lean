/- Package exchange as it landed: executeIn, a way a kind. -/
import Derived.Test.YtjhocpcpkemcaaaGreatQeZZ
import Derived.Test.YtjhocpcpkemcaaaGreatQeBU
import Derived.Test.YtjhocpcpkemcaaaGreatQeBT
import Derived.Test.YtjhocpcpkemcaaaGreatQeBL
import Derived.Test.YtjhocpcpkemcaaaGreatQeAZ
set_option linter.unusedVariables false
set_option maxRecDepth 16000
set_option maxHeartbeats 32000000
namespace Go.Proofs.YtjhocpcpkemcaaaGreat.Ex
open Go.RowKit
open Rw
open Da
open Le (LL eL Lv flat low_setCell keeps_setCell)
open La (Ln LN LB cN eH hl_is is_hl placeN cancelN collectN)
open Ac (Hd Pu HL)
open Bk (Fl FL eFl sumQ bestP BL)
open Cm (fc fc_at laneB)
theorem in_cancel (n Bo g d b ix:Nat) (x:Xc) (f s i o:Value) (c:Nat→Int) (w:World) (h:XL n Bo x f s i o g d b w) (hs:SmX x) (hi:ix<x.lanes.length) (h3:c 3=ix) (hk:c 2=5) :
  Calls Tryz.prog 87 #[.pointer (some ⟨g,ix*6,none⟩),.pointer (some ⟨b,0,none⟩),.agg (fc c)] w (PostE n Bo s g d b (execL x c) w):=by
 obtain ⟨a1,n1,c1,a2,n2,c2,a3,n3,c3,-,-,-,r0,r1,r2,r3,r4,r5⟩:=h.at hi
 have hsl:=hs.lane _ (List.getElem_mem hi)
 have hQ:=execL_in (x:=x) (c:=c) (l:=x.lanes[ix]) (by rw [h3];exact List.getElem?_eq_getElem hi)
 rw [show (c 3).toNat=ix by rw [h3];rfl] at hQ
 obtain ⟨ln,hln⟩:∃ ln,x.lanes[ix]=ln:=⟨_,rfl⟩
 rw [hln] at r0 r1 r4 hsl hQ
 obtain ⟨l1,e1⟩:∃ q,ln.1=q:=⟨_,rfl⟩
 obtain ⟨l2,e2⟩:∃ q,ln.2.1=q:=⟨_,rfl⟩
 obtain ⟨l3,e3⟩:∃ q,ln.2.2.1.2.2=q:=⟨_,rfl⟩
 rw [e1] at r0
 rw [e2] at r1
 rw [e3] at r4
 obtain ⟨af,cf,rfl⟩:=La.hl_slice h.box.d.free
 obtain ⟨m1,q1⟩:∃ q,x.free.length=q:=⟨_,rfl⟩
 rw [q1] at h
 obtain ⟨C,hC⟩:∃ C,cancelN ln x.free (c 0) (c 5)=C:=⟨_,rfl⟩
 rw [show act ln x.free c=(C.1,C.2.1,C.2.2.2,C.2.2.1,0) from by unfold act;rw [if_neg (by rw [hk];decide),if_pos hk,hC]] at hQ
 obtain ⟨V,hV⟩:∃ V,V=w.alloc (.cells (fc c) 35):=⟨_,rfl⟩
 have hbV:Below w.heap.size w V:=hV ▸ below1 w _
 have hcb:V.heap[w.heap.size]?=some (.cells (fc c) 35 (0,0)):=by rw [hV];exact heap_alloc_new _ _
 have hgs:g<w.heap.size:=h.lot.ls.1
 have hbs:b<w.heap.size:=h.box.lt
 have hF:∀ u,Alt (gb g b) V u→u.cell? ⟨w.heap.size,0,none⟩=some (.int .i64 (c 0))∧u.cell? ⟨w.heap.size,2,none⟩=some (.int .i64 (c 2))∧u.cell? ⟨w.heap.size,5,none⟩=some (.int .i64 (c 5)):=fun u hu=>by
  have e:=(hu.block _ (lt_of_some hcb) (fun e=>by rcases e with e | e<;>omega)).trans hcb
  exact ⟨(cell_is e).trans (fc_at c 0 (by decide)),(cell_is e).trans (fc_at c 2 (by decide)),(cell_is e).trans (fc_at c 5 (by decide))⟩
 have HLd:=lH (show ∀ u,Below V.heap.size V u→u.cell? ⟨b,0,none⟩=some (.slice af m1 cf)∧u.cell? ⟨g,ix*6,none⟩=some (.int .i64 l1)∧u.cell? ⟨g,ix*6+1,none⟩=some (.int .i64 l2)∧u.cell? ⟨g,ix*6+2,none⟩=some (.slice a1 n1 c1)∧u.cell? ⟨g,ix*6+3,none⟩=some (.slice a2 n2 c2)∧u.cell? ⟨g,ix*6+4,none⟩=some (.int .i64 l3)∧u.cell? ⟨g,ix*6+5,none⟩=some (.slice a3 n3 c3) from fun u hu=>by
  have k:=nx hbV hu
  have e:=k.block g hgs
  exact ⟨(h.box.stays k).cells.1,(World.cell?_of_block (w:=w) e).trans r0,(World.cell?_of_block (w:=w) e).trans r1,(World.cell?_of_block (w:=w) e).trans r2,(World.cell?_of_block (w:=w) e).trans r3,(World.cell?_of_block (w:=w) e).trans r4,(World.cell?_of_block (w:=w) e).trans r5⟩)
 have HLn:=lH (show ∀ u,Below V.heap.size V u→LN (Bs.of n) ln (.agg #[.int .i64 l1,.int .i64 l2,.slice a1 n1 c1,.slice a2 n2 c2,.int .i64 l3,.slice a3 n3 c3]) u∧HL n x.free (.slice af m1 cf) u∧(Bs.of n).le u.heap.size from fun u hu=>by
  have k:=nx hbV hu
  obtain ⟨a1',n1',c1',a2',n2',c2',a3',n3',c3',h1,h2,h3,-,-,t2,t3,-,t5⟩:=h.at hi
  rw [r2] at t2;rw [r3] at t3;rw [r5] at t5
  injection t2 with t2;injection t3 with t3;injection t5 with t5
  rw [← t2,hln] at h1;rw [← t3,hln] at h2;rw [← t5,hln] at h3
  exact ⟨⟨_,_,_,by rw [e1,e2,e3],Is.stays _ _ h1 k,Is.stays _ _ h2 k,La.hl_stays h3 k⟩,La.hl_stays h.box.d.free k,⟨Nat.le_trans h.lot.lo (by have:=k.size;omega),fun _ h=>h.elim⟩⟩)
 have HC:=lH hC
 have HQ:=lH hQ
 have HSL:=lH hsl
 have HM:=lH (show x.free.length≤1000 from hs.free)
 have HH:=lH h
 have HB:=lH hbV
 have HI:=lH hi
 have t3:(c 2==3)=false:=by rw [hk];rfl
 have t4:(c 2==4)=false:=by rw [hk];rfl
 have t5:(c 2==5)=true:=by rw [hk];rfl
 have t2c:=(hF V (Alt.refl _ _)).2.1
 have HV:=lH hV
 clear hV hC hQ hsl hs h hcb hbV hi r0 r1 r2 r3 r4 r5 q1 e1 e2 e3 h3 hk hln
 go_enter Tryz.func87,Tryz.ntmps87
 go_wp2_with fail
 rw [← HV.out]
 refine Rh.rg (fun u=>Alt (gb g b) V u) (fun u=>Below V.heap.size V u) (fun _ _ h k=>h.trans (Alt.of_below k)) (fun _ _ h k=>nx h k) (Alt.of_below (Below.refl _ _).drew) ((Below.refl _ _).drew) [0,1,2,3,5,6,8,9,10,11,4,7,12,13,14,15,16,17,18,19,20,21,22,23] ?_
 repeat (first | (refine Rh.Steps.sk ?_;simp only [Act.put,sA,sB,sC]) | (refine Rh.Steps.pu (v:=?_) ?_ ?_;rotate_left;(intro w_ hS_;have hk_:=hF w_ hS_;go_simp<;>with_reducible rfl);simp only [Act.put,sA,sB,sC]))
 refine La.steps_two (i:=4) (j:=7) (ord':=[4,12,13,14,15,16,17,18,19,20,21,22,23]) (by kernel_rfl) rfl ?_ ?_
 ·refine Rh.One.val (fun v _=>v=.agg #[.int .i64 l1,.int .i64 l2,.slice a1 n1 c1,.slice a2 n2 c2,.int .i64 l3,.slice a3 n3 c3]) (fun _ _ _ h _=>h) (by rfl) (by rfl) ?_ ?_
  ·intro w_ _ hG_
   obtain ⟨k0,k1,k2,k3,k4,k5,k6⟩:=HLd.out w_ hG_
   refine ⟨.agg #[.int .i64 l1,.int .i64 l2,.slice a1 n1 c1,.slice a2 n2 c2,.int .i64 l3,.slice a3 n3 c3],w_,?_,Below.refl _ _,rfl⟩
   go_simp
  intro v0 u0 hv0
  subst hv0
  simp only [Act.put,sA,sB,sC]
  refine Rh.Steps.forced (i:=7) (by kernel_rfl) ?_
  refine Rh.One.val (fun v _=>v=.slice af m1 cf) (fun _ _ _ h _=>h) (by rfl) (by rfl) ?_ ?_
  ·intro w_ _ hG_
   obtain ⟨k0,_⟩:=HLd.out w_ hG_.1
   refine ⟨.slice af m1 cf,w_,?_,Below.refl _ _,rfl⟩
   clear hG_
   go_simp
  intro v0 u0 hv0
  subst hv0
  simp only [Act.put,sA,sB,sC]
  refine Rh.Steps.forced (i:=12) (by kernel_rfl) ?_
  refine Rh.One.call (NV n C.1 C.2.1 (fun r _=>r=[.int .i64 C.2.2.1,.int .i64 C.2.2.2])) (fun _ _ _ h k=>NV.stays (fun _ _ _ h _=>h) h k) (f:=?_) (args:=?_) (by rfl) (by rfl) ?_ ?_ ?_
  rotate_left 2
  ·intro w_ hS_ hG_;go_simp<;>first | with_reducible rfl | (constructor<;>with_reducible rfl)
  ·intro w_ hS_ hG_;(go_at_call 127;refine (La.lcancel_any (Bs.of n) ln _ x.free _ (c 0) (c 5) w_ (HLn.out w_ hG_.1.1).1 (HLn.out w_ hG_.1.1).2.1 (HLn.out w_ hG_.1.1).2.2 HSL.out HM.out).mono ?_;rintro e w' ⟨v,fv,rfl,hb,hl,hf⟩;rw [HC.out] at hl hf ⊢;obtain ⟨b1,o1,p1,b2,o2,p2,b3,o3,p3,rfl,l1,l2,l3⟩:=ln_three hl;obtain ⟨b4,p4,rfl⟩:=La.hl_slice hf;exact ⟨_,rfl,hb,_,_,_,_,_,_,_,_,_,_,_,_,_,rfl,l1,l2,l3,hf,rfl⟩)
  intro v2 u_ hv2
  simp only [Act.put,sA,sB,sC]
  obtain ⟨b1,o1,p1,b2,o2,p2,b3,o3,p3,b4,o4,p4,_,rfl,-,-,-,-,rfl⟩:=hv2
  repeat (first | (refine Rh.Steps.sk ?_;simp only [Act.put,sA,sB,sC]) | (refine Rh.Steps.pu (v:=?_) ?_ ?_;rotate_left;(intro w_ hS_;skip;go_simp<;>with_reducible rfl);simp only [Act.put,sA,sB,sC]))
  refine Rh.Steps.forced (i:=19) (by kernel_rfl) ?_
  refine Rh.One.store (fun u=>XL n Bo { x with lanes:=x.lanes.set ix C.1 } (.slice af m1 cf) s i o g d b u∧HL n C.2.1 (.slice b4 o4 p4) u) (fun _ _ h k=>⟨h.1.stays k,La.hl_stays h.2 k⟩) (by rfl) (by rfl) ?_ ?_
  ·intro w_ hS_ hG_
   obtain ⟨⟨⟨t0,_⟩,_⟩,t1⟩:=hG_
   obtain ⟨y1,y2,y3,y4,y5⟩:=t1.inv
   obtain ⟨z1,z2,z3⟩:=(HH.out.stays (nx HB.out t0)).lane HI.out y1 y2 y3
   refine ⟨w_.setCells g (ix*6) [.int .i64 C.1.1,.int .i64 C.1.2.1,.slice b1 o1 p1,.slice b2 o2 p2,.int .i64 C.1.2.2.1.2.2,.slice b3 o3 p3],?_,alt_lane hS_,z2,La.hl_keep y4 (z3 _ (by decide))⟩
   clear t0 t1 y1 y2 y3 y4 y5 z2 z3
   go_simp
  repeat (first | (refine Rh.Steps.sk ?_;simp only [Act.put,sA,sB,sC]) | (refine Rh.Steps.pu (v:=?_) ?_ ?_;rotate_left;(intro w_ hS_;skip;go_simp<;>with_reducible rfl);simp only [Act.put,sA,sB,sC]))
  refine Rh.Steps.forced (i:=21) (by kernel_rfl) ?_
  refine Rh.One.store (fun u=>XL n Bo { x with lanes:=x.lanes.set ix C.1,free:=C.2.1 } (.slice b4 o4 p4) s i o g d b u) (fun _ _ h k=>h.stays k) (by rfl) (by rfl) ?_ ?_
  ·intro w_ hS_ hG_
   have k0:=hG_.1.box.cells.1
   have k1:=hG_.1.box.thawed 0
   have k2:=hG_.1.free (fr:=C.2.1) hG_.2
   refine ⟨w_.setCell ⟨b,0,none⟩ (.slice b4 o4 p4),?_,alt_free hS_,k2⟩
   clear k2 hG_
   go_simp
  repeat (first | (refine Rh.Steps.sk ?_;simp only [Act.put,sA,sB,sC]) | (refine Rh.Steps.pu (v:=?_) ?_ ?_;rotate_left;(intro w_ hS_;skip;go_simp<;>with_reducible rfl);simp only [Act.put,sA,sB,sC]))
  refine Rh.Steps.nil (by kernel_rfl) ?_
  intro w5 hS5 hG5
  have HA:=lH ((Alt.of_below HB.out).trans hS5)
  have HG:=lH hG5
  clear hG5 hS5 hF
  go_wp2
  go_ret3
  exact ⟨_,_,_,by rw [HQ.out]<;>rfl,HA.out,by rw [HQ.out];exact HG.out⟩
 ·refine Rh.One.val (fun v _=>v=.slice af m1 cf) (fun _ _ _ h _=>h) (by rfl) (by rfl) ?_ ?_
  ·intro w_ _ hG_
   obtain ⟨k0,_⟩:=HLd.out w_ hG_
   refine ⟨.slice af m1 cf,w_,?_,Below.refl _ _,rfl⟩
   go_simp
  intro v0 u0 hv0
  subst hv0
  simp only [Act.put,sA,sB,sC]
  refine Rh.Steps.forced (i:=4) (by kernel_rfl) ?_
  refine Rh.One.val (fun v _=>v=.agg #[.int .i64 l1,.int .i64 l2,.slice a1 n1 c1,.slice a2 n2 c2,.int .i64 l3,.slice a3 n3 c3]) (fun _ _ _ h _=>h) (by rfl) (by rfl) ?_ ?_
  ·intro w_ _ hG_
   obtain ⟨k0,k1,k2,k3,k4,k5,k6⟩:=HLd.out w_ hG_.1
   refine ⟨.agg #[.int .i64 l1,.int .i64 l2,.slice a1 n1 c1,.slice a2 n2 c2,.int .i64 l3,.slice a3 n3 c3],w_,?_,Below.refl _ _,rfl⟩
   clear hG_
   go_simp
  intro v0 u0 hv0
  subst hv0
  simp only [Act.put,sA,sB,sC]
  refine Rh.Steps.forced (i:=12) (by kernel_rfl) ?_
  refine Rh.One.call (NV n C.1 C.2.1 (fun r _=>r=[.int .i64 C.2.2.1,.int .i64 C.2.2.2])) (fun _ _ _ h k=>NV.stays (fun _ _ _ h _=>h) h k) (f:=?_) (args:=?_) (by rfl) (by rfl) ?_ ?_ ?_
  rotate_left 2
  ·intro w_ hS_ hG_;go_simp<;>first | with_reducible rfl | (constructor<;>with_reducible rfl)
  ·intro w_ hS_ hG_;(go_at_call 127;refine (La.lcancel_any (Bs.of n) ln _ x.free _ (c 0) (c 5) w_ (HLn.out w_ hG_.1.1).1 (HLn.out w_ hG_.1.1).2.1 (HLn.out w_ hG_.1.1).2.2 HSL.out HM.out).mono ?_;rintro e w' ⟨v,fv,rfl,hb,hl,hf⟩;rw [HC.out] at hl hf ⊢;obtain ⟨b1,o1,p1,b2,o2,p2,b3,o3,p3,rfl,l1,l2,l3⟩:=ln_three hl;obtain ⟨b4,p4,rfl⟩:=La.hl_slice hf;exact ⟨_,rfl,hb,_,_,_,_,_,_,_,_,_,_,_,_,_,rfl,l1,l2,l3,hf,rfl⟩)
  intro v2 u_ hv2
  simp only [Act.put,sA,sB,sC]
  obtain ⟨b1,o1,p1,b2,o2,p2,b3,o3,p3,b4,o4,p4,_,rfl,-,-,-,-,rfl⟩:=hv2
  repeat (first | (refine Rh.Steps.sk ?_;simp only [Act.put,sA,sB,sC]) | (refine Rh.Steps.pu (v:=?_) ?_ ?_;rotate_left;(intro w_ hS_;skip;go_simp<;>with_reducible rfl);simp only [Act.put,sA,sB,sC]))
  refine Rh.Steps.forced (i:=19) (by kernel_rfl) ?_
  refine Rh.One.store (fun u=>XL n Bo { x with lanes:=x.lanes.set ix C.1 } (.slice af m1 cf) s i o g d b u∧HL n C.2.1 (.slice b4 o4 p4) u) (fun _ _ h k=>⟨h.1.stays k,La.hl_stays h.2 k⟩) (by rfl) (by rfl) ?_ ?_
  ·intro w_ hS_ hG_
   obtain ⟨⟨⟨t0,_⟩,_⟩,t1⟩:=hG_
   obtain ⟨y1,y2,y3,y4,y5⟩:=t1.inv
   obtain ⟨z1,z2,z3⟩:=(HH.out.stays (nx HB.out t0)).lane HI.out y1 y2 y3
   refine ⟨w_.setCells g (ix*6) [.int .i64 C.1.1,.int .i64 C.1.2.1,.slice b1 o1 p1,.slice b2 o2 p2,.int .i64 C.1.2.2.1.2.2,.slice b3 o3 p3],?_,alt_lane hS_,z2,La.hl_keep y4 (z3 _ (by decide))⟩
   clear t0 t1 y1 y2 y3 y4 y5 z2 z3
   go_simp
  repeat (first | (refine Rh.Steps.sk ?_;simp only [Act.put,sA,sB,sC]) | (refine Rh.Steps.pu (v:=?_) ?_ ?_;rotate_left;(intro w_ hS_;skip;go_simp<;>with_reducible rfl);simp only [Act.put,sA,sB,sC]))
  refine Rh.Steps.forced (i:=21) (by kernel_rfl) ?_
  refine Rh.One.store (fun u=>XL n Bo { x with lanes:=x.lanes.set ix C.1,free:=C.2.1 } (.slice b4 o4 p4) s i o g d b u) (fun _ _ h k=>h.stays k) (by rfl) (by rfl) ?_ ?_
  ·intro w_ hS_ hG_
   have k0:=hG_.1.box.cells.1
   have k1:=hG_.1.box.thawed 0
   have k2:=hG_.1.free (fr:=C.2.1) hG_.2
   refine ⟨w_.setCell ⟨b,0,none⟩ (.slice b4 o4 p4),?_,alt_free hS_,k2⟩
   clear k2 hG_
   go_simp
  repeat (first | (refine Rh.Steps.sk ?_;simp only [Act.put,sA,sB,sC]) | (refine Rh.Steps.pu (v:=?_) ?_ ?_;rotate_left;(intro w_ hS_;skip;go_simp<;>with_reducible rfl);simp only [Act.put,sA,sB,sC]))
  refine Rh.Steps.nil (by kernel_rfl) ?_
  intro w5 hS5 hG5
  have HA:=lH ((Alt.of_below HB.out).trans hS5)
  have HG:=lH hG5
  clear hG5 hS5 hF
  go_wp2
  go_ret3
  exact ⟨_,_,_,by rw [HQ.out]<;>rfl,HA.out,by rw [HQ.out];exact HG.out⟩
theorem in_collect (n Bo g d b ix:Nat) (x:Xc) (f s i o:Value) (c:Nat→Int) (w:World) (h:XL n Bo x f s i o g d b w) (hs:SmX x) (hi:ix<x.lanes.length) (h3:c 3=ix) (hk:c 2=6) :
  Calls Tryz.prog 87 #[.pointer (some ⟨g,ix*6,none⟩),.pointer (some ⟨b,0,none⟩),.agg (fc c)] w (PostE n Bo s g d b (execL x c) w):=by
 obtain ⟨a1,n1,c1,a2,n2,c2,a3,n3,c3,-,-,-,r0,r1,r2,r3,r4,r5⟩:=h.at hi
 have hsl:=hs.lane _ (List.getElem_mem hi)
 have hQ:=execL_in (x:=x) (c:=c) (l:=x.lanes[ix]) (by rw [h3];exact List.getElem?_eq_getElem hi)
 rw [show (c 3).toNat=ix by rw [h3];rfl] at hQ
 obtain ⟨ln,hln⟩:∃ ln,x.lanes[ix]=ln:=⟨_,rfl⟩
 rw [hln] at r0 r1 r4 hsl hQ
 obtain ⟨l1,e1⟩:∃ q,ln.1=q:=⟨_,rfl⟩
 obtain ⟨l2,e2⟩:∃ q,ln.2.1=q:=⟨_,rfl⟩
 obtain ⟨l3,e3⟩:∃ q,ln.2.2.1.2.2=q:=⟨_,rfl⟩
 rw [e1] at r0
 rw [e2] at r1
 rw [e3] at r4
 obtain ⟨af,cf,rfl⟩:=La.hl_slice h.box.d.free
 obtain ⟨m1,q1⟩:∃ q,x.free.length=q:=⟨_,rfl⟩
 rw [q1] at h
 obtain ⟨C,hC⟩:∃ C,collectN ln x.free (c 0)=C:=⟨_,rfl⟩
 rw [show act ln x.free c=(C.1,C.2.1,C.2.2.2.2,C.2.2.1,C.2.2.2.1) from by unfold act;rw [if_neg (by rw [hk];decide),if_neg (by rw [hk];decide),if_pos hk,hC]] at hQ
 obtain ⟨V,hV⟩:∃ V,V=w.alloc (.cells (fc c) 35):=⟨_,rfl⟩
 have hbV:Below w.heap.size w V:=hV ▸ below1 w _
 have hcb:V.heap[w.heap.size]?=some (.cells (fc c) 35 (0,0)):=by rw [hV];exact heap_alloc_new _ _
 have hgs:g<w.heap.size:=h.lot.ls.1
 have hbs:b<w.heap.size:=h.box.lt
 have hF:∀ u,Alt (gb g b) V u→u.cell? ⟨w.heap.size,0,none⟩=some (.int .i64 (c 0))∧u.cell? ⟨w.heap.size,2,none⟩=some (.int .i64 (c 2)):=fun u hu=>by
  have e:=(hu.block _ (lt_of_some hcb) (fun e=>by rcases e with e | e<;>omega)).trans hcb
  exact ⟨(cell_is e).trans (fc_at c 0 (by decide)),(cell_is e).trans (fc_at c 2 (by decide))⟩
 have HLd:=lH (show ∀ u,Below V.heap.size V u→u.cell? ⟨b,0,none⟩=some (.slice af m1 cf)∧u.cell? ⟨g,ix*6,none⟩=some (.int .i64 l1)∧u.cell? ⟨g,ix*6+1,none⟩=some (.int .i64 l2)∧u.cell? ⟨g,ix*6+2,none⟩=some (.slice a1 n1 c1)∧u.cell? ⟨g,ix*6+3,none⟩=some (.slice a2 n2 c2)∧u.cell? ⟨g,ix*6+4,none⟩=some (.int .i64 l3)∧u.cell? ⟨g,ix*6+5,none⟩=some (.slice a3 n3 c3) from fun u hu=>by
  have k:=nx hbV hu
  have e:=k.block g hgs
  exact ⟨(h.box.stays k).cells.1,(World.cell?_of_block (w:=w) e).trans r0,(World.cell?_of_block (w:=w) e).trans r1,(World.cell?_of_block (w:=w) e).trans r2,(World.cell?_of_block (w:=w) e).trans r3,(World.cell?_of_block (w:=w) e).trans r4,(World.cell?_of_block (w:=w) e).trans r5⟩)
 have HLn:=lH (show ∀ u,Below V.heap.size V u→LN (Bs.of n) ln (.agg #[.int .i64 l1,.int .i64 l2,.slice a1 n1 c1,.slice a2 n2 c2,.int .i64 l3,.slice a3 n3 c3]) u∧HL n x.free (.slice af m1 cf) u∧(Bs.of n).le u.heap.size from fun u hu=>by
  have k:=nx hbV hu
  obtain ⟨a1',n1',c1',a2',n2',c2',a3',n3',c3',h1,h2,h3,-,-,t2,t3,-,t5⟩:=h.at hi
  rw [r2] at t2;rw [r3] at t3;rw [r5] at t5
  injection t2 with t2;injection t3 with t3;injection t5 with t5
  rw [← t2,hln] at h1;rw [← t3,hln] at h2;rw [← t5,hln] at h3
  exact ⟨⟨_,_,_,by rw [e1,e2,e3],Is.stays _ _ h1 k,Is.stays _ _ h2 k,La.hl_stays h3 k⟩,La.hl_stays h.box.d.free k,⟨Nat.le_trans h.lot.lo (by have:=k.size;omega),fun _ h=>h.elim⟩⟩)
 have HC:=lH hC
 have HQ:=lH hQ
 have HSL:=lH hsl
 have HM:=lH (show x.free.length≤1000 from hs.free)
 have HH:=lH h
 have HB:=lH hbV
 have HI:=lH hi
 have t3:(c 2==3)=false:=by rw [hk];rfl
 have t4:(c 2==4)=false:=by rw [hk];rfl
 have t5:(c 2==5)=false:=by rw [hk];rfl
 have t6:(c 2==6)=true:=by rw [hk];rfl
 have t2c:=(hF V (Alt.refl _ _)).2
 have HV:=lH hV
 clear hV hC hQ hsl hs h hcb hbV hi r0 r1 r2 r3 r4 r5 q1 e1 e2 e3 h3 hk hln
 go_enter Tryz.func87,Tryz.ntmps87
 go_wp2_with fail
 rw [← HV.out]
 refine Rh.rg (fun u=>Alt (gb g b) V u) (fun u=>Below V.heap.size V u) (fun _ _ h k=>h.trans (Alt.of_below k)) (fun _ _ h k=>nx h k) (Alt.of_below (Below.refl _ _).drew) ((Below.refl _ _).drew) [0,1,2,3,5,6,8,9,4,7,10,11,12,13,14,15,16,17,18,19,20,21,22,23] ?_
 repeat (first | (refine Rh.Steps.sk ?_;simp only [Act.put,sA,sB,sC]) | (refine Rh.Steps.pu (v:=?_) ?_ ?_;rotate_left;(intro w_ hS_;have hk_:=hF w_ hS_;go_simp<;>with_reducible rfl);simp only [Act.put,sA,sB,sC]))
 refine La.steps_two (i:=4) (j:=7) (ord':=[4,10,11,12,13,14,15,16,17,18,19,20,21,22,23]) (by kernel_rfl) rfl ?_ ?_
 ·refine Rh.One.val (fun v _=>v=.agg #[.int .i64 l1,.int .i64 l2,.slice a1 n1 c1,.slice a2 n2 c2,.int .i64 l3,.slice a3 n3 c3]) (fun _ _ _ h _=>h) (by rfl) (by rfl) ?_ ?_
  ·intro w_ _ hG_
   obtain ⟨k0,k1,k2,k3,k4,k5,k6⟩:=HLd.out w_ hG_
   refine ⟨.agg #[.int .i64 l1,.int .i64 l2,.slice a1 n1 c1,.slice a2 n2 c2,.int .i64 l3,.slice a3 n3 c3],w_,?_,Below.refl _ _,rfl⟩
   go_simp
  intro v0 u0 hv0
  subst hv0
  simp only [Act.put,sA,sB,sC]
  refine Rh.Steps.forced (i:=7) (by kernel_rfl) ?_
  refine Rh.One.val (fun v _=>v=.slice af m1 cf) (fun _ _ _ h _=>h) (by rfl) (by rfl) ?_ ?_
  ·intro w_ _ hG_
   obtain ⟨k0,_⟩:=HLd.out w_ hG_.1
   refine ⟨.slice af m1 cf,w_,?_,Below.refl _ _,rfl⟩
   clear hG_
   go_simp
  intro v0 u0 hv0
  subst hv0
  simp only [Act.put,sA,sB,sC]
  refine Rh.Steps.forced (i:=10) (by kernel_rfl) ?_
  refine Rh.One.call (NV n C.1 C.2.1 (fun r _=>r=[.int .i64 C.2.2.1,.int .i64 C.2.2.2.1,.int .i64 C.2.2.2.2])) (fun _ _ _ h k=>NV.stays (fun _ _ _ h _=>h) h k) (f:=?_) (args:=?_) (by rfl) (by rfl) ?_ ?_ ?_
  rotate_left 2
  ·intro w_ hS_ hG_;go_simp<;>first | with_reducible rfl | (constructor<;>with_reducible rfl)
  ·intro w_ hS_ hG_;(go_at_call 128;refine (La.lcollect_any (Bs.of n) ln _ x.free _ (c 0) w_ (HLn.out w_ hG_.1.1).1 (HLn.out w_ hG_.1.1).2.1 (HLn.out w_ hG_.1.1).2.2 HSL.out HM.out).mono ?_;rintro e w' ⟨v,fv,rfl,hb,hl,hf⟩;rw [HC.out] at hl hf ⊢;obtain ⟨b1,o1,p1,b2,o2,p2,b3,o3,p3,rfl,l1,l2,l3⟩:=ln_three hl;obtain ⟨b4,p4,rfl⟩:=La.hl_slice hf;exact ⟨_,rfl,hb,_,_,_,_,_,_,_,_,_,_,_,_,_,rfl,l1,l2,l3,hf,rfl⟩)
  intro v2 u_ hv2
  simp only [Act.put,sA,sB,sC]
  obtain ⟨b1,o1,p1,b2,o2,p2,b3,o3,p3,b4,o4,p4,_,rfl,-,-,-,-,rfl⟩:=hv2
  repeat (first | (refine Rh.Steps.sk ?_;simp only [Act.put,sA,sB,sC]) | (refine Rh.Steps.pu (v:=?_) ?_ ?_;rotate_left;(intro w_ hS_;skip;go_simp<;>with_reducible rfl);simp only [Act.put,sA,sB,sC]))
  refine Rh.Steps.forced (i:=18) (by kernel_rfl) ?_
  refine Rh.One.store (fun u=>XL n Bo { x with lanes:=x.lanes.set ix C.1 } (.slice af m1 cf) s i o g d b u∧HL n C.2.1 (.slice b4 o4 p4) u) (fun _ _ h k=>⟨h.1.stays k,La.hl_stays h.2 k⟩) (by rfl) (by rfl) ?_ ?_
  ·intro w_ hS_ hG_
   obtain ⟨⟨⟨t0,_⟩,_⟩,t1⟩:=hG_
   obtain ⟨y1,y2,y3,y4,y5⟩:=t1.inv
   obtain ⟨z1,z2,z3⟩:=(HH.out.stays (nx HB.out t0)).lane HI.out y1 y2 y3
   refine ⟨w_.setCells g (ix*6) [.int .i64 C.1.1,.int .i64 C.1.2.1,.slice b1 o1 p1,.slice b2 o2 p2,.int .i64 C.1.2.2.1.2.2,.slice b3 o3 p3],?_,alt_lane hS_,z2,La.hl_keep y4 (z3 _ (by decide))⟩
   clear t0 t1 y1 y2 y3 y4 y5 z2 z3
   go_simp
  repeat (first | (refine Rh.Steps.sk ?_;simp only [Act.put,sA,sB,sC]) | (refine Rh.Steps.pu (v:=?_) ?_ ?_;rotate_left;(intro w_ hS_;skip;go_simp<;>with_reducible rfl);simp only [Act.put,sA,sB,sC]))
  refine Rh.Steps.forced (i:=20) (by kernel_rfl) ?_
  refine Rh.One.store (fun u=>XL n Bo { x with lanes:=x.lanes.set ix C.1,free:=C.2.1 } (.slice b4 o4 p4) s i o g d b u) (fun _ _ h k=>h.stays k) (by rfl) (by rfl) ?_ ?_
  ·intro w_ hS_ hG_
   have k0:=hG_.1.box.cells.1
   have k1:=hG_.1.box.thawed 0
   have k2:=hG_.1.free (fr:=C.2.1) hG_.2
   refine ⟨w_.setCell ⟨b,0,none⟩ (.slice b4 o4 p4),?_,alt_free hS_,k2⟩
   clear k2 hG_
   go_simp
  repeat (first | (refine Rh.Steps.sk ?_;simp only [Act.put,sA,sB,sC]) | (refine Rh.Steps.pu (v:=?_) ?_ ?_;rotate_left;(intro w_ hS_;skip;go_simp<;>with_reducible rfl);simp only [Act.put,sA,sB,sC]))
  refine Rh.Steps.nil (by kernel_rfl) ?_
  intro w5 hS5 hG5
  have HA:=lH ((Alt.of_below HB.out).trans hS5)
  have HG:=lH hG5
  clear hG5 hS5 hF
  go_wp2
  go_ret3
  exact ⟨_,_,_,by rw [HQ.out]<;>rfl,HA.out,by rw [HQ.out];exact HG.out⟩
 ·refine Rh.One.val (fun v _=>v=.slice af m1 cf) (fun _ _ _ h _=>h) (by rfl) (by rfl) ?_ ?_
  ·intro w_ _ hG_
   obtain ⟨k0,_⟩:=HLd.out w_ hG_
   refine ⟨.slice af m1 cf,w_,?_,Below.refl _ _,rfl⟩
   go_simp
  intro v0 u0 hv0
  subst hv0
  simp only [Act.put,sA,sB,sC]
  refine Rh.Steps.forced (i:=4) (by kernel_rfl) ?_
  refine Rh.One.val (fun v _=>v=.agg #[.int .i64 l1,.int .i64 l2,.slice a1 n1 c1,.slice a2 n2 c2,.int .i64 l3,.slice a3 n3 c3]) (fun _ _ _ h _=>h) (by rfl) (by rfl) ?_ ?_
  ·intro w_ _ hG_
   obtain ⟨k0,k1,k2,k3,k4,k5,k6⟩:=HLd.out w_ hG_.1
   refine ⟨.agg #[.int .i64 l1,.int .i64 l2,.slice a1 n1 c1,.slice a2 n2 c2,.int .i64 l3,.slice a3 n3 c3],w_,?_,Below.refl _ _,rfl⟩
   clear hG_
   go_simp
  intro v0 u0 hv0
  subst hv0
  simp only [Act.put,sA,sB,sC]
  refine Rh.Steps.forced (i:=10) (by kernel_rfl) ?_
  refine Rh.One.call (NV n C.1 C.2.1 (fun r _=>r=[.int .i64 C.2.2.1,.int .i64 C.2.2.2.1,.int .i64 C.2.2.2.2])) (fun _ _ _ h k=>NV.stays (fun _ _ _ h _=>h) h k) (f:=?_) (args:=?_) (by rfl) (by rfl) ?_ ?_ ?_
  rotate_left 2
  ·intro w_ hS_ hG_;go_simp<;>first | with_reducible rfl | (constructor<;>with_reducible rfl)
  ·intro w_ hS_ hG_;(go_at_call 128;refine (La.lcollect_any (Bs.of n) ln _ x.free _ (c 0) w_ (HLn.out w_ hG_.1.1).1 (HLn.out w_ hG_.1.1).2.1 (HLn.out w_ hG_.1.1).2.2 HSL.out HM.out).mono ?_;rintro e w' ⟨v,fv,rfl,hb,hl,hf⟩;rw [HC.out] at hl hf ⊢;obtain ⟨b1,o1,p1,b2,o2,p2,b3,o3,p3,rfl,l1,l2,l3⟩:=ln_three hl;obtain ⟨b4,p4,rfl⟩:=La.hl_slice hf;exact ⟨_,rfl,hb,_,_,_,_,_,_,_,_,_,_,_,_,_,rfl,l1,l2,l3,hf,rfl⟩)
  intro v2 u_ hv2
  simp only [Act.put,sA,sB,sC]
  obtain ⟨b1,o1,p1,b2,o2,p2,b3,o3,p3,b4,o4,p4,_,rfl,-,-,-,-,rfl⟩:=hv2
  repeat (first | (refine Rh.Steps.sk ?_;simp only [Act.put,sA,sB,sC]) | (refine Rh.Steps.pu (v:=?_) ?_ ?_;rotate_left;(intro w_ hS_;skip;go_simp<;>with_reducible rfl);simp only [Act.put,sA,sB,sC]))
  refine Rh.Steps.forced (i:=18) (by kernel_rfl) ?_
  refine Rh.One.store (fun u=>XL n Bo { x with lanes:=x.lanes.set ix C.1 } (.slice af m1 cf) s i o g d b u∧HL n C.2.1 (.slice b4 o4 p4) u) (fun _ _ h k=>⟨h.1.stays k,La.hl_stays h.2 k⟩) (by rfl) (by rfl) ?_ ?_
  ·intro w_ hS_ hG_
   obtain ⟨⟨⟨t0,_⟩,_⟩,t1⟩:=hG_
   obtain ⟨y1,y2,y3,y4,y5⟩:=t1.inv
   obtain ⟨z1,z2,z3⟩:=(HH.out.stays (nx HB.out t0)).lane HI.out y1 y2 y3
   refine ⟨w_.setCells g (ix*6) [.int .i64 C.1.1,.int .i64 C.1.2.1,.slice b1 o1 p1,.slice b2 o2 p2,.int .i64 C.1.2.2.1.2.2,.slice b3 o3 p3],?_,alt_lane hS_,z2,La.hl_keep y4 (z3 _ (by decide))⟩
   clear t0 t1 y1 y2 y3 y4 y5 z2 z3
   go_simp
  repeat (first | (refine Rh.Steps.sk ?_;simp only [Act.put,sA,sB,sC]) | (refine Rh.Steps.pu (v:=?_) ?_ ?_;rotate_left;(intro w_ hS_;skip;go_simp<;>with_reducible rfl);simp only [Act.put,sA,sB,sC]))
  refine Rh.Steps.forced (i:=20) (by kernel_rfl) ?_
  refine Rh.One.store (fun u=>XL n Bo { x with lanes:=x.lanes.set ix C.1,free:=C.2.1 } (.slice b4 o4 p4) s i o g d b u) (fun _ _ h k=>h.stays k) (by rfl) (by rfl) ?_ ?_
  ·intro w_ hS_ hG_
   have k0:=hG_.1.box.cells.1
   have k1:=hG_.1.box.thawed 0
   have k2:=hG_.1.free (fr:=C.2.1) hG_.2
   refine ⟨w_.setCell ⟨b,0,none⟩ (.slice b4 o4 p4),?_,alt_free hS_,k2⟩
   clear k2 hG_
   go_simp
  repeat (first | (refine Rh.Steps.sk ?_;simp only [Act.put,sA,sB,sC]) | (refine Rh.Steps.pu (v:=?_) ?_ ?_;rotate_left;(intro w_ hS_;skip;go_simp<;>with_reducible rfl);simp only [Act.put,sA,sB,sC]))
  refine Rh.Steps.nil (by kernel_rfl) ?_
  intro w5 hS5 hG5
  have HA:=lH ((Alt.of_below HB.out).trans hS5)
  have HG:=lH hG5
  clear hG5 hS5 hF
  go_wp2
  go_ret3
  exact ⟨_,_,_,by rw [HQ.out]<;>rfl,HA.out,by rw [HQ.out];exact HG.out⟩
theorem in_top (n Bo g d b ix:Nat) (x:Xc) (f s i o:Value) (c:Nat→Int) (w:World) (h:XL n Bo x f s i o g d b w) (hs:SmX x) (hi:ix<x.lanes.length) (h3:c 3=ix) (hk:c 2=8) :
  Calls Tryz.prog 87 #[.pointer (some ⟨g,ix*6,none⟩),.pointer (some ⟨b,0,none⟩),.agg (fc c)] w (PostE n Bo s g d b (execL x c) w):=by
 obtain ⟨V,hV⟩:∃ V,V=w.alloc (.cells (fc c) 35):=⟨_,rfl⟩
 have hbV:Below w.heap.size w V:=hV ▸ below1 w _
 have hcb:V.heap[w.heap.size]?=some (.cells (fc c) 35 (0,0)):=by rw [hV];exact heap_alloc_new _ _
 have hv:=h.stays hbV
 obtain ⟨a1,n1,c1,a2,n2,c2,a3,n3,c3,l1,l2,-,-,-,r2,r3,r4,-⟩:=hv.at hi
 have hsl:=hs.lane _ (List.getElem_mem hi)
 have hQ:=execL_in (x:=x) (c:=c) (l:=x.lanes[ix]) (by rw [h3];exact List.getElem?_eq_getElem hi)
 rw [show (c 3).toNat=ix by rw [h3];rfl,show act x.lanes[ix] x.free c=(x.lanes[ix],x.free,0,bestP x.lanes[ix].2.2.1.1,bestP x.lanes[ix].2.2.1.2.1) from by unfold act;rw [if_neg (by rw [hk];decide),if_neg (by rw [hk];decide),if_neg (by rw [hk];decide)]] at hQ
 have HQ:=lH (show execL x c=(x,0,bestP x.lanes[ix].2.2.1.1,bestP x.lanes[ix].2.2.1.2.1) from by rw [hQ];simp only [set_self' hi])
 have HT:=lH (Bk.top_any (Bs.of n) x.lanes[ix].2.2.1 _ V ⟨_,_,rfl,l1,l2⟩ (by have:=hsl.m1;omega) (by have:=hsl.m2;omega) (by have:=hsl.m3;omega) (by have:=hsl.m4;omega))
 have c0:V.cell? ⟨w.heap.size,2,none⟩=some (.int .i64 (c 2)):=(cell_is hcb).trans (fc_at c 2 (by decide))
 have T1:(c 2==3)=false:=by rw [hk];rfl
 have T2:(c 2==4)=false:=by rw [hk];rfl
 have T3:(c 2==5)=false:=by rw [hk];rfl
 have T4:(c 2==6)=false:=by rw [hk];rfl
 have T5:(c 2==8)=true:=by rw [hk];rfl
 obtain ⟨l3,e3⟩:∃ q,x.lanes[ix].2.2.1.2.2=q:=⟨_,rfl⟩
 obtain ⟨A,hA⟩:∃ q,bestP x.lanes[ix].2.2.1.1=q:=⟨_,rfl⟩
 obtain ⟨B,hB⟩:∃ q,bestP x.lanes[ix].2.2.1.2.1=q:=⟨_,rfl⟩
 rw [e3] at HT r4
 rw [hA,hB] at HT HQ
 have HV:=lH hV
 have HH:=lH hv
 have HB:=lH hbV
 rw [hV] at c0 r2 r3 r4
 clear hV hQ hsl hs h hcb hbV hi h3 hk hv l1 l2 e3 hA hB
 go_enter Tryz.func87,Tryz.ntmps87
 go_wp2_with fail
 rw [← HV.out]
 refine HT.out.mono ?_
 rintro e w2 ⟨rfl,hb2⟩
 have HF:=lH (And.intro ((Alt.of_below (X:=gb g b) HB.out).trans (Alt.of_below hb2)) (HH.out.stays hb2))
 clear c0 r2 r3 r4 hb2
 go_wp2
 go_ret3
 exact ⟨_,_,_,by rw [HQ.out]<;>rfl,HF.out.1,by rw [HQ.out];exact HF.out.2⟩
end Go.Proofs.YtjhocpcpkemcaaaGreat.Ex
namespace Go.Proofs.YtjhocpcpkemcaaaGreat.Ex
open Go.RowKit
open Rw
open Da
open Le (LL eL Lv flat low_setCell keeps_setCell)
open La (Ln LN LB cN eH hl_is is_hl)
open Ac (Hd Pu HL)
open Bk (Fl FL eFl sumQ bestP BL)
open Cm (fc fc_at laneB chkE)
def PostK (n Bo b:Nat) (s:Value) (R:Xc × Int × Int × Int) (w:World) (e:Ending) (w':World):Prop :=
 ∃ f l i o,e=.returned (.tuple #[.int .i64 R.2.2.1,.int .i64 R.2.2.2,.int .i64 R.2.1])∧Below Bo w w'∧(∀ (j:Nat) (o:Array Value) (T:TypeId) (z:Nat × Nat),w.heap[j]?=some (Obj.cells o T z)→T≠59→j≠b→w'.heap[j]?=w.heap[j]?)∧XB n R.1 f l s i o b w'
theorem below_gb {g b Bo:Nat} {w w':World} (h:Alt (gb g b) w w') (hg:Bo≤g) (hb:Bo≤b) (hB:Bo≤w.heap.size):Below Bo w w' :=
 ⟨h.os,h.tape,h.output,h.size,fun k hk=>h.block k (Nat.lt_of_lt_of_le hk hB) fun e=>by rcases e with e | e<;>omega⟩
theorem PostK.of {n Bo b g:Nat} {s:Value} {R:Xc × Int × Int × Int} {f l i o:Value} {w w':World} (hg:Bo≤g) (hb:Bo≤b) (hB:Bo≤w.heap.size) (ht:∀ (o:Array Value) (T:TypeId) (z:Nat × Nat),w.heap[g]?=some (Obj.cells o T z)→T=59) (h:Alt (gb g b) w w') (hx:XB n R.1 f l s i o b w') :
  PostK n Bo b s R w (.returned (.tuple #[.int .i64 R.2.2.1,.int .i64 R.2.2.2,.int .i64 R.2.1])) w' :=
 ⟨f,l,i,o,rfl,below_gb h hg hb hB,fun j o T z hj hT hne=>h.block j (lt_of_some hj) fun e=>by
  rcases e with e | e
  ·subst e;exact hT (ht _ _ _ hj)
  ·exact hne e,hx⟩
theorem PostK.of0 {n Bo b:Nat} {s:Value} {R:Xc × Int × Int × Int} {f l i o:Value} {w w':World} (hb:Bo≤b) (hB:Bo≤w.heap.size) (h:Alt (fun k=>k=b) w w') (hx:XB n R.1 f l s i o b w') :
  PostK n Bo b s R w (.returned (.tuple #[.int .i64 R.2.2.1,.int .i64 R.2.2.2,.int .i64 R.2.1])) w' :=
 ⟨f,l,i,o,rfl,⟨h.os,h.tape,h.output,h.size,fun k hk=>h.block k (Nat.lt_of_lt_of_le hk hB) fun e=>by omega⟩,fun j _ _ _ hj _ hne=>h.block j (lt_of_some hj) hne,hx⟩
theorem pur_len {x:Xc} (hs:SmX x) (k:Int) (p:Pu) (q:Int):(purR x k p q).1.free.length≤1000:=by
 unfold purR
 by_cases h1:k=1
 ·rw [if_pos h1];exact dep_len hs p q
 ·rw [if_neg h1]
  by_cases h2:k=2
  ·rw [if_pos h2];exact wdr_len hs p q
  ·rw [if_neg h2];exact hs.free
theorem get_is {n:Nat} {l:List Hd} {v:Value} {p q r:Int} {w:World} (H:Hid (Ac.get l (p,q)=r)) (h:HL n l v w) (hm:l.length≤1000000) :
  Calls Tryz.prog 24 #[v,.agg #[.int .i64 p,.int .i64 q]] w fun e w'=>e=.returned (.int .i64 r)∧Below w.heap.size w w':=by
 rw [← H.out];exact Ac.get_any l v p q w h hm
theorem ex_boxes {w V:World} {c:Nat→Int} (hV:V=(w.alloc (.cells (fc c) 35)).alloc (.cells #[.int .i64 (c 0),.int .i64 (c 4)] 50)) :
  Below w.heap.size w V∧V.heap[w.heap.size]?=some (.cells (fc c) 35 (0,0))∧V.heap[w.heap.size+1]?=some (.cells #[.int .i64 (c 0),.int .i64 (c 4)] 50 (0,0)):=by
 refine ⟨hV ▸ below2 w _ _,?_,?_⟩
 ·rw [hV,heap_al,if_neg (by simp),heap_al,if_pos rfl]
 ·rw [hV,heap_al,if_pos (by simp)]
theorem exec_mov (n Bo b:Nat) (x:Xc) (f l s i o:Value) (c:Nat→Int) (w:World) (h:XB n x f l s i o b w) (hs:SmX x) (hb:Bo≤b) (hk:c 2=1∨c 2=2) :
  Calls Tryz.prog 44 #[.pointer (some ⟨b,0,none⟩),.agg (fc c)] w (PostK n Bo b s (execP x c) w):=by
 obtain ⟨V,hV⟩:∃ V,V=(w.alloc (.cells (fc c) 35)).alloc (.cells #[.int .i64 (c 0),.int .i64 (c 4)] 50):=⟨_,rfl⟩
 obtain ⟨hbV,g0,g1⟩:=ex_boxes hV
 obtain ⟨R,hR⟩:∃ R,(if c 8=0 then (x,1) else purR x (c 2) (c 0,c 4) (c 8))=R:=⟨_,rfl⟩
 have HM:=lH (hR ▸ move_any n b x f l s i o (c 2) (c 0) (c 4) (c 8) V (h.stays hbV) hs hk)
 have hbl:=h.lt
 have HQ:=lH (show execP x c=(R.1,R.2,if R.2=0 then Ac.get R.1.free (c 0,c 4) else 0,0) from by
  rw [execP_is,← hR]
  by_cases h8:c 8=0
  ·rw [if_pos ⟨by rcases hk with e | e<;>rw [e]<;>decide,h8⟩,if_pos h8];rfl
  ·rw [if_neg (fun e=>h8 e.2),if_neg h8])
 have HL1:=lH (show R.1.free.length≤1000 from by
  rw [← hR]
  by_cases h8:c 8=0
  ·rw [if_pos h8];exact hs.free
  ·rw [if_neg h8];exact pur_len hs _ _ _)
 have c0:V.cell? ⟨w.heap.size,2,none⟩=some (.int .i64 (c 2)):=(cell_is g0).trans (fc_at c 2 (by decide))
 have c1:V.cell? ⟨w.heap.size,8,none⟩=some (.int .i64 (c 8)):=(cell_is g0).trans (fc_at c 8 (by decide))
 have r1:row V (w.heap.size+1)=#[.int .i64 (c 0),.int .i64 (c 4)]:=row_is g1
 have G1:=lH g1
 have HV:=lH hV
 have HB:=lH hbV
 have HH:=lH h
 have z1:w.heap.size+1<V.heap.size:=lt_of_some g1
 have T0:(c 2==1)=true∨(c 2==1)=false∧(c 2==2)=true:=by rcases hk with h | h<;>rw [h]<;>decide
 clear hV g0 g1 hbV h hs hk hR
 rcases T0 with T1 | ⟨T1,T2⟩
 all_goals
  go_enter Tryz.func44,Tryz.ntmps44
  go_wp2_with fail
  rw [← HV.out]
  refine HM.out.mono ?_
  rintro e w2 ⟨f2,i2,o2,rfl,ha,hx2⟩
  have HA:=lH ((Alt.of_below HB.out).trans ha)
  have HX:=lH hx2
  have HP:=lH ((ha.block _ z1 (fun e=>by omega)).trans G1.out)
  clear ha hx2 c0 c1 r1
  by_cases h0:R.2=0
  ·have HQ2:=lH (show execP x c=(R.1,0,Ac.get R.1.free (c 0,c 4),0) from by rw [HQ.out,if_pos h0,h0])
   obtain ⟨A,hA⟩:∃ A,Ac.get R.1.free (c 0,c 4)=A:=⟨_,rfl⟩
   rw [hA] at HQ2
   have HG:=lH hA
   rw [h0]
   obtain ⟨a2,c2,rfl⟩:=La.hl_slice HX.out.d.free
   have hF:∀ u,Below w2.heap.size w2 u→u.cell? ⟨b,0,none⟩=some (.slice a2 R.1.free.length c2)∧u.cell? ⟨w.heap.size+1,0,none⟩=some (.int .i64 (c 0))∧u.cell? ⟨w.heap.size+1,1,none⟩=some (.int .i64 (c 4)):=fun u hu=>by
    have e:=(hu.block _ (lt_of_some HP.out)).trans HP.out
    exact ⟨(HX.out.stays hu).cells.1,cell_is e,cell_is e⟩
   clear hA h0
   go_wp2_with fail
   refine Rh.rb [0,1,2,3,4,5,6,7,8] ?_
   repeat (first | (refine Rh.Steps.sk ?_;simp only [Act.put,sA,sB,sC]) | (refine Rh.Steps.pu (v:=?_) ?_ ?_;rotate_left;(intro w_ hS_;have hk_:=hF w_ hS_;go_simp<;>with_reducible rfl);simp only [Act.put,sA,sB,sC]) | (refine Rh.Steps.ca (v:=?_) (f:=?_) (args:=?_) ?_ ?_ ?_;rotate_left 3;(intro w_ hS_;have hk_:=hF w_ hS_;go_simp<;>first | with_reducible rfl | (constructor<;>with_reducible rfl));(intro w_ hS_;have hk_:=hF w_ hS_;first | (go_at_call 24;refine (get_is HG (La.hl_stays HX.out.d.free hS_) (Nat.le_trans HL1.out (by decide))).mono ?_;first | (rintro e w_ ⟨rfl,rfl⟩;refine ⟨?_,Below.refl _ _⟩;with_reducible rfl) | (rintro e w_ ⟨rfl,hb_⟩;refine ⟨?_,hb_⟩;with_reducible rfl)));simp only [Act.put,sA,sB,sC]))
   refine Rh.Steps.nil (by kernel_rfl) ?_
   intro w3 hb3 _
   clear hF
   go_wp2
   go_ret3
   rw [HQ2.out]
   exact PostK.of0 hb (Nat.le_of_lt (Nat.lt_of_le_of_lt hb hbl)) (HA.out.trans (Alt.of_below hb3)) (HX.out.stays hb3)
  ·have HQ2:=lH (show execP x c=(R.1,R.2,0,0) from by rw [HQ.out,if_neg h0])
   have ne:(R.2 != 0)=true:=by simpa using h0
   clear h0
   go_wp2
   go_ret3
   rw [HQ2.out]
   exact PostK.of0 hb (Nat.le_of_lt (Nat.lt_of_le_of_lt hb hbl)) HA.out HX.out
theorem exec_bal (n Bo b:Nat) (x:Xc) (f l s i o:Value) (c:Nat→Int) (w:World) (h:XB n x f l s i o b w) (hs:SmX x) (hb:Bo≤b) (hk:c 2=7) :
  Calls Tryz.prog 44 #[.pointer (some ⟨b,0,none⟩),.agg (fc c)] w (PostK n Bo b s (execP x c) w):=by
 obtain ⟨V,hV⟩:∃ V,V=(w.alloc (.cells (fc c) 35)).alloc (.cells #[.int .i64 (c 0),.int .i64 (c 4)] 50):=⟨_,rfl⟩
 obtain ⟨hbV,g0,g1⟩:=ex_boxes hV
 have hbl:=h.lt
 obtain ⟨A,hA⟩:∃ A,Ac.get x.free (c 0,c 4)=A:=⟨_,rfl⟩
 have HG:=lH hA
 have HQ2:=lH (show execP x c=(x,0,A,0) from by rw [← hA];unfold execP;rw [if_neg (by rw [hk];simp),if_neg (by rw [hk];decide),if_neg (by rw [hk];decide)])
 have c0:V.cell? ⟨w.heap.size,2,none⟩=some (.int .i64 (c 2)):=(cell_is g0).trans (fc_at c 2 (by decide))
 have z1:w.heap.size+1<V.heap.size:=lt_of_some g1
 have T1:(c 2==1)=false:=by rw [hk];rfl
 have T2:(c 2==2)=false:=by rw [hk];rfl
 have T3:(c 2==7)=true:=by rw [hk];rfl
 obtain ⟨a2,c2,rfl⟩:=La.hl_slice h.d.free
 have HV:=lH hV
 have HB:=lH hbV
 have HH:=lH h
 have HL1:=lH hs.free
 have hF:∀ u,Below V.heap.size V u→u.cell? ⟨b,0,none⟩=some (.slice a2 x.free.length c2)∧u.cell? ⟨w.heap.size+1,0,none⟩=some (.int .i64 (c 0))∧u.cell? ⟨w.heap.size+1,1,none⟩=some (.int .i64 (c 4)):=fun u hu=>by
  have e:=(hu.block _ (lt_of_some g1)).trans g1
  exact ⟨(h.stays (nx hbV hu)).cells.1,cell_is e,cell_is e⟩
 clear hV g0 g1 hbV h hs hk hA
 go_enter Tryz.func44,Tryz.ntmps44
 go_wp2_with fail
 rw [← HV.out]
 refine Rh.rb [0,1,2,3,4,5,6,7,8] ?_
 repeat (first | (refine Rh.Steps.sk ?_;simp only [Act.put,sA,sB,sC]) | (refine Rh.Steps.pu (v:=?_) ?_ ?_;rotate_left;(intro w_ hS_;have hk_:=hF w_ hS_;go_simp<;>with_reducible rfl);simp only [Act.put,sA,sB,sC]) | (refine Rh.Steps.ca (v:=?_) (f:=?_) (args:=?_) ?_ ?_ ?_;rotate_left 3;(intro w_ hS_;have hk_:=hF w_ hS_;go_simp<;>first | with_reducible rfl | (constructor<;>with_reducible rfl));(intro w_ hS_;have hk_:=hF w_ hS_;first | (go_at_call 24;refine (get_is HG (La.hl_stays HH.out.d.free (nx HB.out hS_)) (Nat.le_trans HL1.out (by decide))).mono ?_;first | (rintro e w_ ⟨rfl,rfl⟩;refine ⟨?_,Below.refl _ _⟩;with_reducible rfl) | (rintro e w_ ⟨rfl,hb_⟩;refine ⟨?_,hb_⟩;with_reducible rfl)));simp only [Act.put,sA,sB,sC]))
 refine Rh.Steps.nil (by kernel_rfl) ?_
 intro w3 hb3 _
 clear hF c0
 go_wp2
 go_ret3
 rw [HQ2.out]
 exact PostK.of0 hb (Nat.le_of_lt (Nat.lt_of_le_of_lt hb hbl)) (Alt.of_below (nx HB.out hb3)) (HH.out.stays (nx HB.out hb3))
theorem lane_tests {k:Int} (h:laneB k=true):(k==1)=false∧(k==2)=false∧(k==7)=false:=by
 unfold laneB at h
 refine ⟨?_,?_,?_⟩
 all_goals
  cases e:(k==_)
  ·rfl
  ·rw [eq_of_beq e] at h;exact absurd h (by decide)
theorem exec_no (n Bo b:Nat) (x:Xc) (f l s i o:Value) (c:Nat→Int) (w:World) (h:XB n x f l s i o b w) (hb:Bo≤b) (hk:laneB (c 2)=true) (h3:0≤c 3) (hn:(x.lanes.length:Int)≤c 3) (hm:x.lanes.length≤1000) :
  Calls Tryz.prog 44 #[.pointer (some ⟨b,0,none⟩),.agg (fc c)] w (PostK n Bo b s (execL x c) w):=by
 obtain ⟨V,hV⟩:∃ V,V=(w.alloc (.cells (fc c) 35)).alloc (.cells #[.int .i64 (c 0),.int .i64 (c 4)] 50):=⟨_,rfl⟩
 obtain ⟨hbV,g0,g1⟩:=ex_boxes hV
 have hbl:=h.lt
 have HQ2:=lH (show execL x c=(x,8,0,0) from by unfold execL;rw [List.getElem?_eq_none (by omega)])
 have c0:V.cell? ⟨w.heap.size,2,none⟩=some (.int .i64 (c 2)):=(cell_is g0).trans (fc_at c 2 (by decide))
 obtain ⟨T1,T2,T3⟩:=lane_tests hk
 obtain ⟨a2,c2,rfl⟩:=h.d.lanes.len
 have T4:decide (c 3 ≥ (x.lanes.length:Int))=true:=decide_eq_true hn
 have HV:=lH hV
 have HB:=lH hbV
 have HH:=lH h
 have hF:∀ u,Below V.heap.size V u→u.cell? ⟨b,1,none⟩=some (.slice a2 x.lanes.length c2)∧u.cell? ⟨w.heap.size,3,none⟩=some (.int .i64 (c 3)):=fun u hu=>by
  have e:=(hu.block _ (lt_of_some g0)).trans g0
  exact ⟨(h.stays (nx hbV hu)).cells.2.1,(cell_is e).trans (fc_at c 3 (by decide))⟩
 clear hV g0 g1 hbV h hk hn
 go_enter Tryz.func44,Tryz.ntmps44
 go_wp2_with fail
 rw [← HV.out]
 refine Rh.rb [0,1,2,3,4,5,6,7] ?_
 repeat (first | (refine Rh.Steps.sk ?_;simp only [Act.put,sA,sB,sC]) | (refine Rh.Steps.pu (v:=?_) ?_ ?_;rotate_left;(intro w_ hS_;have hk_:=hF w_ hS_;go_simp<;>with_reducible rfl);simp only [Act.put,sA,sB,sC]))
 refine Rh.Steps.nil (by kernel_rfl) ?_
 intro w3 hb3 _
 clear hF c0
 go_wp2
 go_ret3
 rw [HQ2.out]
 exact PostK.of0 hb (Nat.le_of_lt (Nat.lt_of_le_of_lt hb hbl)) (Alt.of_below (nx HB.out hb3)) (HH.out.stays (nx HB.out hb3))
theorem in_any (n Bo g d b ix:Nat) (x:Xc) (f s i o:Value) (c:Nat→Int) (w:World) (h:XL n Bo x f s i o g d b w) (hs:SmX x) (hi:ix<x.lanes.length) (h3:c 3=ix) (hk:laneB (c 2)=true) :
  Calls Tryz.prog 87 #[.pointer (some ⟨g,ix*6,none⟩),.pointer (some ⟨b,0,none⟩),.agg (fc c)] w (PostE n Bo s g d b (execL x c) w):=by
 have:c 2=3∨c 2=4∨c 2=5∨c 2=6∨c 2=8:=by unfold laneB at hk;simpa [or_assoc] using hk
 rcases this with e | e | e | e | e
 ·exact in_place n Bo g d b ix x f s i o c true w h hs hi h3 (.inl ⟨e,rfl⟩)
 ·exact in_place n Bo g d b ix x f s i o c false w h hs hi h3 (.inr ⟨e,rfl⟩)
 ·exact in_cancel n Bo g d b ix x f s i o c w h hs hi h3 e
 ·exact in_collect n Bo g d b ix x f s i o c w h hs hi h3 e
 ·exact in_top n Bo g d b ix x f s i o c w h hs hi h3 e
theorem exec_at (n Bo g d b ix:Nat) (x:Xc) (f s i o:Value) (c:Nat→Int) (w:World) (h:XL n Bo x f s i o g d b w) (hs:SmX x) (hi:ix<x.lanes.length) (h3:c 3=ix) (hk:laneB (c 2)=true) :
  Calls Tryz.prog 44 #[.pointer (some ⟨b,0,none⟩),.agg (fc c)] w (PostK n Bo b s (execL x c) w):=by
 obtain ⟨V,hV⟩:∃ V,V=(w.alloc (.cells (fc c) 35)).alloc (.cells #[.int .i64 (c 0),.int .i64 (c 4)] 50):=⟨_,rfl⟩
 obtain ⟨hbV,g0,g1⟩:=ex_boxes hV
 have hbl:=h.box.lt
 have hgl:=h.lot.ls.1
 have c0:V.cell? ⟨w.heap.size,2,none⟩=some (.int .i64 (c 2)):=(cell_is g0).trans (fc_at c 2 (by decide))
 obtain ⟨T1,T2,T3⟩:=lane_tests hk
 have hi2:(ix:Int)<x.lanes.length:=by exact_mod_cast hi
 have T4:decide ((ix:Int) ≥ (x.lanes.length:Int))=false:=by simpa using hi2
 obtain ⟨R,hR⟩:∃ R,execL x c=R:=⟨_,rfl⟩
 have HIN:=lH (show ∀ u,Below V.heap.size V u→Calls Tryz.prog 87 #[.pointer (some ⟨g,ix*6,none⟩),.pointer (some ⟨b,0,none⟩),.agg (fc c)] u (PostE n Bo s g d b R u) from fun u hu=>hR ▸ in_any n Bo g d b ix x f s i o c u (h.stays (nx hbV hu)) hs hi h3 hk)
 have HLen:=lH (show R.1.lanes.length=x.lanes.length from by rw [← hR,execL_in (l:=x.lanes[ix]) (by rw [h3];exact List.getElem?_eq_getElem hi)];exact List.length_set)
 rw [hR]
 have HV:=lH hV
 have HB:=lH hbV
 have HH:=lH h
 have HI:=lH hi
 have hF:∀ u,(Alt (gb g b) V u∧u.cell? ⟨b,1,none⟩=some (.slice (some ⟨g,0,none⟩) x.lanes.length d))→u.cell? ⟨b,1,none⟩=some (.slice (some ⟨g,0,none⟩) x.lanes.length d)∧u.cell? ⟨w.heap.size,3,none⟩=some (.int .i64 ix)∧row u w.heap.size=fc c:=fun u hu=>by
  have e:=(hu.1.block _ (lt_of_some g0) (fun e=>by rcases e with e | e<;>omega)).trans g0
  exact ⟨hu.2,by rw [← h3];exact (cell_is e).trans (fc_at c 3 (by decide)),row_is e⟩
 have HS0:=lH (show ∀ u,Below V.heap.size V u→Alt (gb g b) V u∧u.cell? ⟨b,1,none⟩=some (.slice (some ⟨g,0,none⟩) x.lanes.length d) from fun u hu=>⟨Alt.of_below hu,(h.box.stays (nx hbV hu)).cells.2.1⟩)
 have hst:∀ u u',(Alt (gb g b) V u∧u.cell? ⟨b,1,none⟩=some (.slice (some ⟨g,0,none⟩) x.lanes.length d))→Below u.heap.size u u'→(Alt (gb g b) V u'∧u'.cell? ⟨b,1,none⟩=some (.slice (some ⟨g,0,none⟩) x.lanes.length d)):=fun u u' hu k=>⟨hu.1.trans (Alt.of_below k),(k.cell (p:=⟨b,1,none⟩) (by have:=hu.1.size;have:=hbV.size;show b<u.heap.size;omega)).trans hu.2⟩
 have HST:=lH hst
 have hF1:=fun u (hu:Below V.heap.size V u)=>hF u (HS0.out u hu)
 clear hV g0 g1 hbV h hk hs hi hR h3 hst
 go_enter Tryz.func44,Tryz.ntmps44
 go_wp2_with fail
 rw [← HV.out]
 refine Rh.rb [0,1,2,3,4,5,6,7] ?_
 repeat (first | (refine Rh.Steps.sk ?_;simp only [Act.put,sA,sB,sC]) | (refine Rh.Steps.pu (v:=?_) ?_ ?_;rotate_left;(intro w_ hS_;have hk_:=hF1 w_ hS_;go_simp<;>with_reducible rfl);simp only [Act.put,sA,sB,sC]))
 refine Rh.Steps.nil (by kernel_rfl) ?_
 intro w3 hb3 _
 have HS3:=lH (HS0.out w3 hb3)
 have HB3:=lH hb3
 clear c0 hb3 hF1
 go_wp2_with fail
 refine Rh.rg (fun u=>Alt (gb g b) V u∧u.cell? ⟨b,1,none⟩=some (.slice (some ⟨g,0,none⟩) x.lanes.length d)) (fun u=>Below w3.heap.size w3 u) (HST.out) (fun _ _ h k=>nx h k) (HST.out _ _ HS3.out (Below.refl _ _).drew) ((Below.refl _ _).drew) [0,1,2,3,4,5,6,7,8,9,10,11,12,13,14,15,16,17] ?_
 repeat (first | (refine Rh.Steps.sk ?_;simp only [Act.put,sA,sB,sC]) | (refine Rh.Steps.pu (v:=?_) ?_ ?_;rotate_left;(intro w_ hS_;have hk_:=hF w_ hS_;go_simp<;>with_reducible rfl);simp only [Act.put,sA,sB,sC]))
 refine Rh.Steps.forced (i:=11) (by kernel_rfl) ?_
 refine Rh.One.callw (fun v u=>∃ f i o,v=.tuple #[.int .i64 R.2.2.1,.int .i64 R.2.2.2,.int .i64 R.2.1]∧XL n Bo R.1 f s i o g d b u) (fun _ _ _ h k=>by obtain ⟨f,i,o,e,h⟩:=h;exact ⟨f,i,o,e,h.stays k⟩) (f:=?_) (args:=?_) (by rfl) (by rfl) ?_ ?_ ?_
 rotate_left 2
 ·intro w_ hS_ hG_
  obtain ⟨k1,k2,k3⟩:=hF w_ hS_
  go_simp<;>first | with_reducible rfl | (constructor<;>with_reducible rfl)
 ·intro w_ hS_ hG_
  go_at_call 87
  refine (HIN.out w_ (nx HB3.out hG_)).mono ?_
  rintro e w' ⟨f',i',o',rfl,ha,hx⟩
  exact ⟨_,rfl,⟨hS_.1.trans ha,by have:=hx.box.cells.2.1;rw [HLen.out] at this;exact this⟩,_,_,_,rfl,hx⟩
 intro v5 u5 hv5
 simp only [Act.put,sA,sB,sC]
 obtain ⟨_,_,_,rfl,-⟩:=hv5
 repeat (first | (refine Rh.Steps.sk ?_;simp only [Act.put,sA,sB,sC]) | (refine Rh.Steps.pu (v:=?_) ?_ ?_;rotate_left;(intro w_ hS_;skip;go_simp<;>with_reducible rfl);simp only [Act.put,sA,sB,sC]))
 refine Rh.Steps.nil (by kernel_rfl) ?_
 intro w9 hS9 hG9
 obtain ⟨f',i',o',-,hx9⟩:=hG9
 have HF:=lH (PostK.of (s:=s) (R:=R) (l:=.slice (some ⟨g,0,none⟩) R.1.lanes.length d) HH.out.lot.bo HH.out.bo (Nat.le_of_lt (Nat.lt_of_le_of_lt HH.out.bo hbl)) (fun o T z e=>by obtain ⟨cur,hc⟩:=HH.out.lot.ty;rw [hc] at e;injection e with e;injection e with _ e2;exact e2.symm) ((Alt.of_below HB.out).trans hS9.1) hx9.box)
 clear hF hS9 hx9
 go_wp2
 go_ret3
 exact HF.out
theorem execute_any (n Bo b:Nat) (x:Xc) (f l s i o:Value) (c:Nat→Int) (w:World) (h:XC n Bo x f l s i o b w) (hs:SmX x) (hb:Bo≤b) (hc:chkE c=0) (h0:c 2≠0) :
  Calls Tryz.prog 44 #[.pointer (some ⟨b,0,none⟩),.agg (fc c)] w (PostK n Bo b s (exec x c) w):=by
 obtain ⟨k1,_,_,k3,_⟩:=chk_ok hc h0
 unfold exec
 by_cases hl:laneB (c 2)=true
 ·rw [if_pos hl]
  obtain ⟨ix,hix⟩:∃ ix:Nat,c 3=ix:=⟨(c 3).toNat,by omega⟩
  by_cases hi:ix<x.lanes.length
  ·obtain ⟨hx,⟨a,d,rfl,ho,-⟩,_⟩:=h
   obtain ⟨g,rfl,hg⟩:=ho.at hi
   exact exec_at n Bo g d b ix x f s i o c w ⟨hx,hg,hb⟩ hs hi hix hl
  ·exact exec_no n Bo b x f l s i o c w h.box hb hl k3.1 (by omega) hs.lanes
 ·rw [if_neg hl]
  have:c 2=1∨c 2=2∨c 2=7:=by
   unfold laneB at hl
   simp only [Bool.or_eq_true,beq_iff_eq,not_or] at hl
   omega
  rcases this with e | e | e
  ·exact exec_mov n Bo b x f l s i o c w h.box hs hb (.inl e)
  ·exact exec_mov n Bo b x f l s i o c w h.box hs hb (.inr e)
  ·exact exec_bal n Bo b x f l s i o c w h.box hs hb e
end Go.Proofs.YtjhocpcpkemcaaaGreat.Ex
